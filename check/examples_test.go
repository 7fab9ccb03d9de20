package check_test

import (
	"fmt"
	"testing"

	"assize/api"
	"assize/check"
	"assize/parse"
)

// Short ways to write spots and trees down.

func fine() api.Spot { return api.Spot{Err: api.OK, Thread: -1, Stmt: -1} }

func spot(err api.Errno, thread, stmt int) api.Spot {
	return api.Spot{Err: err, Thread: thread, Stmt: stmt}
}

func name(s string) api.Expr { return api.Expr{Op: api.Name, Name: s} }

func lit(v api.Value) api.Expr { return api.Expr{Op: api.Lit, Lit: v} }

func op(o api.Op, kids ...api.Expr) api.Expr { return api.Expr{Op: o, Kids: kids} }

func number(n int64) api.Value { return api.Value{T: api.Int, Bits: uint64(n)} }

func truth(b uint64) api.Value { return api.Value{T: api.Bool, Bits: b} }

func bits(b uint64) api.Value { return api.Value{T: api.Real, Bits: b} }

func skip() api.Stmt { return api.Stmt{Kind: api.Skip} }

func assert(e api.Expr) api.Stmt { return api.Stmt{Kind: api.Assert, E: e} }

// one tells a program of one thread t.
func one(body ...api.Stmt) api.Program {
	return api.Program{Threads: []api.Thread{{Name: "t", Body: body}}}
}

// program reads a program's text.
func program(t *testing.T, s string) api.Program {
	t.Helper()
	p, fault := parse.Parse(s)
	if fault.Err != api.OK {
		t.Fatalf("%.300q: %v", s, fault)
	}
	return p
}

// expr reads an expression's text.
func expr(t *testing.T, s string) api.Expr {
	t.Helper()
	e, fault := parse.Expr(s)
	if fault.Err != api.OK {
		t.Fatalf("%.300q: %v", s, fault)
	}
	return e
}

// checkTree fails if a program's spot is another one.
func checkTree(t *testing.T, p api.Program, want api.Spot) {
	t.Helper()
	if got := check.Check(p); got != want {
		t.Errorf("Check(%.300s) = %v; not %v", fmt.Sprint(p), got, want)
	}
}

// checkText fails if the spot of a text's program is another one.
func checkText(t *testing.T, s string, want api.Spot) {
	t.Helper()
	if got := check.Check(program(t, s)); got != want {
		t.Errorf("Check(%.300q) = %v; not %v", s, got, want)
	}
}

// checkType fails if an expression's type is another one.
func checkType(t *testing.T, p api.Program, thread int, e api.Expr, want api.Type, wantErr api.Errno) {
	t.Helper()
	if got, err := check.TypeOf(p, thread, e); got != want || err != wantErr {
		t.Errorf("TypeOf(.., %d, %.300s) = %v, %v; not %v, %v", thread, fmt.Sprint(e), got, err, want, wantErr)
	}
}

// The table of the chapter, line by line.
func TestExamples(t *testing.T) {
	checkText(t, "shared x int; thread t { x = 1; }", fine())
	checkText(t, "shared x int; thread t { x = x + 1; }", spot(check.ErrAtomic, 0, 0))
	checkText(t, "thread t { local i int; if true { i = 1.5; } }", spot(api.ErrType, 0, 1))
	checkText(t, "thread t { lock m; y = 1; }", spot(api.ErrMissing, 0, 0))
	checkText(t, "mutex a; mutex a; thread t { skip; }", spot(api.ErrThere, -1, -1))
	checkText(t, "shared x int; thread t { local x int; }", spot(api.ErrThere, 0, -1))
	checkTree(t, api.Program{}, spot(api.ErrLong, -1, -1))
	if check.ErrAtomic != 170 {
		t.Error(check.ErrAtomic)
	}
}
