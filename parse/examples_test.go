package parse_test

import (
	"fmt"
	"strings"
	"testing"

	"assize/api"
	"assize/parse"
	"assize/tree"
)

// Short ways to write trees down.

func name(s string) api.Expr { return api.Expr{Op: api.Name, Name: s} }

func op(o api.Op, kids ...api.Expr) api.Expr { return api.Expr{Op: o, Kids: kids} }

func lit(v api.Value) api.Expr { return api.Expr{Op: api.Lit, Lit: v} }

func number(n int64) api.Value { return api.Value{T: api.Int, Bits: uint64(n)} }

func truth(b uint64) api.Value { return api.Value{T: api.Bool, Bits: b} }

func bits(b uint64) api.Value { return api.Value{T: api.Real, Bits: b} }

// one tells a program of one thread t.
func one(body ...api.Stmt) api.Program {
	return api.Program{Threads: []api.Thread{{Name: "t", Body: body}}}
}

// asserted tells a program that has an expression, by which expressions are held against one another.
func asserted(e api.Expr) api.Program { return one(api.Stmt{Kind: api.Assert, E: e}) }

func sameExpr(a, b api.Expr) bool { return tree.Same(asserted(a), asserted(b)) }

// checkProgram fails if a text is read as another program, or not without a fault.
func checkProgram(t *testing.T, s string, want api.Program) {
	t.Helper()
	p, fault := parse.Parse(s)
	if fault != (api.Fault{}) || !tree.Same(p, want) {
		t.Errorf("Parse(%.300q) = %.300s, %v; not %.300s", s, fmt.Sprint(p), fault, fmt.Sprint(want))
	}
}

// checkExpr fails if a text is read as another expression, or not without a fault.
func checkExpr(t *testing.T, s string, want api.Expr) {
	t.Helper()
	e, fault := parse.Expr(s)
	if fault != (api.Fault{}) || !sameExpr(e, want) {
		t.Errorf("Expr(%.300q) = %.300s, %v; not %.300s", s, fmt.Sprint(e), fault, fmt.Sprint(want))
	}
}

// refused fails if a program's text is answered otherwise than by this fault, and nothing beside it.
func refused(t *testing.T, s string, err api.Errno, at int) {
	t.Helper()
	p, fault := parse.Parse(s)
	if want := (api.Fault{Err: err, At: at}); fault != want || !tree.Same(p, api.Program{}) {
		t.Errorf("Parse(%.300q) = %.300s, %v; not %v", s, fmt.Sprint(p), fault, want)
	}
}

// refusedExpr fails if an expression's text is answered otherwise than by this fault, and nothing beside it.
func refusedExpr(t *testing.T, s string, err api.Errno, at int) {
	t.Helper()
	e, fault := parse.Expr(s)
	if want := (api.Fault{Err: err, At: at}); fault != want || !sameExpr(e, api.Expr{}) {
		t.Errorf("Expr(%.300q) = %.300s, %v; not %v", s, fmt.Sprint(e), fault, want)
	}
}

// The table of the chapter, line by line.
func TestExamples(t *testing.T) {
	checkExpr(t, "a - b - c * -d", op(api.Sub, op(api.Sub, name("a"), name("b")), op(api.Mul, name("c"), op(api.Neg, name("d")))))
	checkProgram(t, "shared x int = -3; mutex m; thread t { x = 1; }", api.Program{
		Shared:  []api.Var{{Name: "x", First: number(-3)}},
		Mutexes: []string{"m"},
		Threads: []api.Thread{{Name: "t", Body: []api.Stmt{{Kind: api.Assign, Name: "x", E: lit(number(1))}}}},
	})
	refusedExpr(t, "a < b < c", api.ErrBytes, 6)
	refusedExpr(t, "(a", api.ErrBytes, 2)
	refusedExpr(t, "int a", api.ErrBytes, 4)
	refused(t, "shared x int = true;", api.ErrType, 15)
	refused(t, "thread t { x = 1 }", api.ErrBytes, 17)
	refusedExpr(t, "1"+strings.Repeat(" + 1", 32), parse.ErrDepth, 2+4*31)
	refusedExpr(t, strings.Repeat("(", 33), parse.ErrDepth, 32)
}
