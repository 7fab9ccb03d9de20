package tree_test

import (
	"fmt"
	"testing"

	"assize/api"
	"assize/real"
	"assize/tree"
)

// Short ways to write trees down.

func name(s string) api.Expr { return api.Expr{Op: api.Name, Name: s} }

func lit(v api.Value) api.Expr { return api.Expr{Op: api.Lit, Lit: v} }

func op(o api.Op, kids ...api.Expr) api.Expr { return api.Expr{Op: o, Kids: kids} }

func number(n int64) api.Value { return api.Value{T: api.Int, Bits: uint64(n)} }

func truth(b uint64) api.Value { return api.Value{T: api.Bool, Bits: b} }

func bits(b uint64) api.Value { return api.Value{T: api.Real, Bits: b} }

// literal tells the real of a literal.
func literal(t *testing.T, s string) api.Value {
	t.Helper()
	b, err := real.Parse(s)
	if err != api.OK {
		t.Fatal(s, err)
	}
	return bits(b)
}

func skip() api.Stmt { return api.Stmt{Kind: api.Skip} }

func one(body ...api.Stmt) api.Program {
	return api.Program{Threads: []api.Thread{{Name: "t", Body: body}}}
}

// said fails if an answer is another one than a text, or an error without one.
func said(t *testing.T, what any, s string, err api.Errno, want string, wantErr api.Errno) {
	t.Helper()
	if s != want || err != wantErr {
		t.Fatalf("%.200s: %.200q, %v; not %.200q, %v", fmt.Sprint(what), s, err, want, wantErr)
	}
}

func checkExpr(t *testing.T, e api.Expr, want string, wantErr api.Errno) {
	t.Helper()
	s, err := tree.Expr(e)
	said(t, e, s, err, want, wantErr)
}

func checkValue(t *testing.T, v api.Value, want string, wantErr api.Errno) {
	t.Helper()
	s, err := tree.Value(v)
	said(t, v, s, err, want, wantErr)
}

func checkPrint(t *testing.T, p api.Program, want string, wantErr api.Errno) {
	t.Helper()
	s, err := tree.Print(p)
	said(t, p, s, err, want, wantErr)
}

// The table of the chapter, line by line.
func TestExamples(t *testing.T) {
	checkExpr(t, op(api.Add, name("x"), op(api.Mul, lit(number(2)), op(api.Neg, name("y")))), "(x + (2 * -y))", api.OK)
	checkExpr(t, op(api.Not, op(api.Eq, lit(literal(t, "0.5")), lit(bits(api.NaN)))), "!(0.5 == nan)", api.OK)
	checkValue(t, number(-3), "-3", api.OK)
	checkValue(t, bits(real.Neg(literal(t, "0.0").Bits)), "-0.0", api.OK)
	checkValue(t, number(-1<<63), "", api.ErrArg)
	checkPrint(t, one(skip()), "thread t {\n  skip;\n}\n", api.OK)
	both := api.Stmt{Kind: api.If, E: lit(truth(1)), Body: []api.Stmt{skip()}, Else: []api.Stmt{skip()}}
	checkPrint(t, one(both), "thread t {\n  if true {\n    skip;\n  } else {\n    skip;\n  }\n}\n", api.OK)
}
