package compile_test

import (
	"fmt"
	"math"
	"strings"
	"testing"

	"assize/api"
	"assize/check"
	"assize/code"
	"assize/compile"
	"assize/tree"
)

// times tells as many of something, each by its number.
func times[T any](n int, make func(i int) T) []T {
	var list []T
	for i := range n {
		list = append(list, make(i))
	}
	return list
}

func skip() api.Stmt { return api.Stmt{Kind: api.Skip} }

func skips(n int) []api.Stmt { return times(n, func(int) api.Stmt { return skip() }) }

func lit(v api.Value) api.Expr { return api.Expr{Op: api.Lit, Lit: v} }

func op(o api.Op, kids ...api.Expr) api.Expr { return api.Expr{Op: o, Kids: kids} }

func yes() api.Expr { return lit(truth(1)) }

// one tells a program of one thread t.
func one(body ...api.Stmt) api.Program {
	return api.Program{Threads: []api.Thread{{Name: "t", Body: body}}}
}

// compiled tells a program's code, which there must be, and be that of the second compiler.
func compiled(t *testing.T, p api.Program) api.Code {
	t.Helper()
	checkCompiled(t, p, secondCompile(p))
	c, _ := compile.Compile(p)
	return c
}

// P10.1, what a program has

func TestWhatAProgramHas(t *testing.T) {
	p := program(t, "shared x int = -3; mutex m; shared r real = nan; shared b bool = true; mutex n; "+
		"thread t { local i int = 5; local c bool; i = 1; } thread u { } thread v { local i real = -0.0; skip; }")
	checkCompiled(t, p, api.Code{
		Shared:  []api.Value{number(-3), bits(api.NaN), truth(1)},
		Mutexes: 2,
		Bodies: []api.Body{
			{Locals: []api.Value{number(5), truth(0)}, Stack: 1, Nodes: nodes("lit 1, setlocal 0 > 1")},
			{},
			{Locals: []api.Value{bits(1 << 63)}, Nodes: nodes("pass > 1")},
		},
	})
	checkCompiled(t, one(), api.Code{Bodies: make([]api.Body, 1)})
}

func TestWhatAStatementDoes(t *testing.T) {
	const ahead = "shared x int; shared y real; shared z bool; mutex m; mutex n; mutex o; thread t { local i int; local r real; local b bool; "
	for s, want := range map[string]string{
		"i = 1;":            "lit 1, setlocal 0 > 1",
		"r = 0.5;":          "lit 0.5, setlocal 1 > 1",
		"b = false;":        "lit false, setlocal 2 > 1",
		"x = 7;":            "lit 7, setshared 0 > 1",
		"y = nan;":          "lit nan, setshared 1 > 1",
		"z = true;":         "lit true, setshared 2 > 1",
		"i = i;":            "load 0, setlocal 0 > 1",
		"i = x;":            "fetch 0, setlocal 0 > 1",
		"x = i;":            "load 0, setshared 0 > 1",
		"r = y;":            "fetch 1, setlocal 1 > 1",
		"z = b;":            "load 2, setshared 2 > 1",
		"lock m;":           "take 0 > 1",
		"lock n;":           "take 1 > 1",
		"lock o;":           "take 2 > 1",
		"unlock m;":         "give 0 > 1",
		"unlock o;":         "give 2 > 1",
		"assert z;":         "fetch 2, demand > 1",
		"assert b;":         "load 2, demand > 1",
		"assert false;":     "lit false, demand > 1",
		"if z { }":          "fetch 2, branch > 1 1",
		"if b { } else { }": "load 2, branch > 1 1",
		"while z { }":       "fetch 2, branch > 0 1",
		"while false { }":   "lit false, branch > 0 1",
		"skip;":             "pass > 1",
	} {
		stack := 1
		if !strings.Contains(want, ", ") {
			stack = 0
		}
		checkNodes(t, ahead+s+"}", stack, want)
	}
}

func TestExpressions(t *testing.T) {
	const ahead = "shared x int; shared y real; shared z bool; thread t { local i int; local r real; local b bool; "
	for s, want := range map[string]string{
		"b = b || z;":                       "load 2, fetch 2, or, setlocal 2 > 1",
		"b = z && b;":                       "fetch 2, load 2, and, setlocal 2 > 1",
		"b = i == x;":                       "load 0, fetch 0, eq, setlocal 2 > 1",
		"b = y != r;":                       "fetch 1, load 1, ne, setlocal 2 > 1",
		"b = i < 2;":                        "load 0, lit 2, lt, setlocal 2 > 1",
		"b = i <= 2;":                       "load 0, lit 2, le, setlocal 2 > 1",
		"b = 2 > i;":                        "lit 2, load 0, gt, setlocal 2 > 1",
		"b = 2 >= i;":                       "lit 2, load 0, ge, setlocal 2 > 1",
		"i = x + i;":                        "fetch 0, load 0, add, setlocal 0 > 1",
		"i = i - x;":                        "load 0, fetch 0, sub, setlocal 0 > 1",
		"r = r * y;":                        "load 1, fetch 1, mul, setlocal 1 > 1",
		"r = y / 2.5;":                      "fetch 1, lit 2.5, div, setlocal 1 > 1",
		"i = i % x;":                        "load 0, fetch 0, mod, setlocal 0 > 1",
		"i = -x;":                           "fetch 0, neg, setlocal 0 > 1",
		"b = !z;":                           "fetch 2, not, setlocal 2 > 1",
		"i = int(y);":                       "fetch 1, toint, setlocal 0 > 1",
		"r = real(x);":                      "fetch 0, toreal, setlocal 1 > 1",
		"i = -(1 - -2) * i;":                "lit 1, lit 2, neg, sub, neg, load 0, mul, setlocal 0 > 1",
		"i = i + i * i;":                    "load 0, load 0, load 0, mul, add, setlocal 0 > 1",
		"i = (i + i) * i;":                  "load 0, load 0, add, load 0, mul, setlocal 0 > 1",
		"assert !(real(i) < y) || b && !b;": "load 0, toreal, fetch 1, lt, not, load 2, load 2, not, and, or, demand > 1",
		// No part is left out, whatever it comes to.
		"b = true || z;":           "lit true, fetch 2, or, setlocal 2 > 1",
		"i = 0 * (1 / 0);":         "lit 0, lit 1, lit 0, div, mul, setlocal 0 > 1",
		"if false { } else { }":    "lit false, branch > 1 1",
		"i = i + 0;":               "load 0, lit 0, add, setlocal 0 > 1",
		"r = inf - inf;":           "lit inf, lit inf, sub, setlocal 1 > 1",
		"while !!z && true { }":    "fetch 2, not, not, lit true, and, branch > 0 1",
		"x = 9223372036854775807;": "lit 9223372036854775807, setshared 0 > 1",
	} {
		n := nodes(want)
		checkNodes(t, ahead+s+"}", most(n[0].Code), want)
	}
}

// Names stand for their own thread's locals.
func TestNamesOfUnlikeThreads(t *testing.T) {
	p := program(t, "shared x int; shared y int; mutex m; mutex n; thread t { local i int; local j int; j = i; j = y; lock n; } "+
		"thread u { local j int; local t int; local i int; j = i; t = x; i = t; y = j; unlock m; }")
	checkCompiled(t, p, api.Code{
		Shared:  alike(number(0), 2),
		Mutexes: 2,
		Bodies: []api.Body{
			{Locals: alike(number(0), 2), Stack: 1, Nodes: nodes("load 0, setlocal 1 > 1; fetch 1, setlocal 1 > 2; take 1 > 3")},
			{Locals: alike(number(0), 3), Stack: 1, Nodes: nodes("load 2, setlocal 0 > 1; fetch 0, setlocal 1 > 2; load 1, setlocal 2 > 3; load 0, setshared 1 > 4; give 0 > 5")},
		},
	})
}

// alike tells a list of so many of one value.
func alike(v api.Value, n int) []api.Value {
	return times(n, func(int) api.Value { return v })
}

// P10.1, where a statement goes on

func TestRoads(t *testing.T) {
	for s, want := range map[string]string{
		"skip; skip; skip;":                                "1; 2; 3",
		"if true { }":                                      "1 1",
		"if true { } skip;":                                "1 1; 2",
		"if true { skip; }":                                "1 2; 2",
		"if true { skip; } skip;":                          "1 2; 2; 3",
		"if true { } else { skip; }":                       "2 1; 2",
		"if true { skip; } else { skip; }":                 "1 2; 3; 3",
		"if true { skip; skip; } else { skip; skip; }":     "1 3; 2; 5; 4; 5",
		"while true { }":                                   "0 1",
		"skip; while true { } skip;":                       "1; 1 2; 3",
		"while true { skip; skip; } skip;":                 "1 3; 2; 0; 4",
		"while true { while true { } }":                    "1 2; 1 0",
		"while true { while true { skip; } }":              "1 3; 2 0; 1",
		"while true { while true { } skip; }":              "1 3; 1 2; 0",
		"while true { if true { } }":                       "1 2; 0 0",
		"while true { if true { skip; } else { } }":        "1 3; 2 0; 0",
		"while true { if true { } else { skip; } }":        "1 3; 0 2; 0",
		"while true { if true { skip; } skip; } skip;":     "1 4; 2 3; 3; 0; 5",
		"if true { while true { } }":                       "1 2; 1 2",
		"if true { while true { } } skip;":                 "1 2; 1 2; 3",
		"if true { while true { skip; } } else { skip; }":  "1 3; 2 4; 1; 4",
		"if true { } else { while true { skip; } } skip;":  "3 1; 2 3; 1; 4",
		"if true { if true { skip; } } else { skip; }":     "1 3; 2 4; 4; 4",
		"if true { if true { } else { } } skip;":           "1 2; 2 2; 3",
		"if true { if true { } skip; } else { skip; }":     "1 3; 2 2; 4; 4",
		"if true { } else { if true { } else { skip; } }":  "3 1; 3 2; 3",
		"if true { } else { if true { skip; } } skip; ":    "3 1; 2 3; 3; 4",
		"while true { while true { if true { skip; } } }":  "1 4; 2 0; 3 1; 1",
		"while true { if true { while true { } } } skip; ": "1 3; 2 0; 2 0; 4",
	} {
		p := program(t, "thread t { "+s+"}")
		c := compiled(t, p)
		var got []string
		for _, n := range c.Bodies[0].Nodes {
			road := fmt.Sprint(n.Next)
			if n.Kind == api.Branch {
				road += fmt.Sprint(" ", n.Alt)
			} else if n.Alt != 0 {
				t.Error(s, n)
			}
			got = append(got, road)
		}
		if strings.Join(got, "; ") != want {
			t.Errorf("%s: %q; not %q", s, got, want)
		}
	}
}

// P10.1, Stack

// leaning tells an expression of Ints so high, all of whose operators have their great kid first, or second.
func leaning(high int, first bool) api.Expr {
	e := lit(number(1))
	for range high - 1 {
		if first {
			e = op(api.Add, e, lit(number(2)))
		} else {
			e = op(api.Add, lit(number(2)), e)
		}
	}
	return e
}

// full tells an expression of Ints with two kids everywhere, so high.
func full(high int) api.Expr {
	if high == 1 {
		return lit(number(1))
	}
	return op(api.Sub, full(high-1), full(high-1))
}

func TestStack(t *testing.T) {
	is := func(e api.Expr) api.Stmt { return api.Stmt{Kind: api.Assert, E: op(api.Lt, e, lit(number(0)))} }
	nots := yes()
	for range 31 {
		nots = op(api.Not, nots)
	}
	for _, c := range []struct {
		body []api.Stmt
		want int
	}{
		{nil, 0},
		{[]api.Stmt{skip(), skip()}, 0},
		{[]api.Stmt{skip(), {Kind: api.While, E: yes()}}, 1},
		{[]api.Stmt{{Kind: api.Assert, E: nots}}, 1},
		{[]api.Stmt{is(lit(number(0)))}, 2},
		{[]api.Stmt{is(leaning(2, true))}, 2},
		{[]api.Stmt{is(leaning(31, true))}, 2},
		{[]api.Stmt{is(leaning(3, false))}, 3},
		{[]api.Stmt{is(leaning(31, false))}, 31},
		{[]api.Stmt{{Kind: api.Assert, E: op(api.Lt, lit(number(0)), leaning(31, false))}}, 32},
		{[]api.Stmt{is(full(12))}, 12},
		{[]api.Stmt{is(op(api.Neg, full(5)))}, 5},
		// The most of all nodes, wherever it stands.
		{[]api.Stmt{is(full(3)), is(full(7)), is(full(5)), skip()}, 7},
		{[]api.Stmt{{Kind: api.If, E: yes(), Body: []api.Stmt{is(full(3))}, Else: []api.Stmt{is(full(4))}}}, 4},
		{[]api.Stmt{{Kind: api.If, E: yes(), Body: []api.Stmt{is(full(4))}, Else: []api.Stmt{is(full(3))}}}, 4},
		{[]api.Stmt{{Kind: api.While, E: is(full(6)).E, Body: []api.Stmt{is(full(3))}}}, 6},
		{[]api.Stmt{{Kind: api.While, E: is(full(3)).E, Body: []api.Stmt{is(full(6))}}}, 6},
	} {
		if got := compiled(t, one(c.body...)).Bodies[0].Stack; got != c.want {
			t.Errorf("%.300s: %d; not %d", fmt.Sprint(c.body), got, c.want)
		}
	}
	// Each thread has its own; and there is no room to spare.
	p := program(t, "thread t { skip; } thread u { assert 1 < 2; } thread v { assert true; }")
	c := compiled(t, p)
	for i, want := range []int{0, 2, 1} {
		if c.Bodies[i].Stack != want {
			t.Error(i, c.Bodies[i].Stack)
		}
	}
	c.Bodies[1].Stack = 1
	if code.Check(c) != api.ErrType {
		t.Error(code.Check(c))
	}
}

// The greatest that may be.

func TestAsManyAsMayBe(t *testing.T) {
	p := api.Program{Mutexes: times(16, func(i int) string { return fmt.Sprint("m", i) })}
	vars := func(s string, n int) []api.Var {
		return times(n, func(i int) api.Var { return api.Var{Name: fmt.Sprint(s, i), First: number(int64(i))} })
	}
	p.Shared = vars("x", 32)
	p.Threads = times(16, func(i int) api.Thread {
		return api.Thread{Name: fmt.Sprint("t", i), Locals: vars("i", 16), Body: append(skips(1020),
			api.Stmt{Kind: api.Lock, Name: "m15"}, api.Stmt{Kind: api.Unlock, Name: "m0"},
			api.Stmt{Kind: api.Assign, Name: "i15", E: api.Expr{Op: api.Name, Name: "x31"}},
			api.Stmt{Kind: api.Assign, Name: "x31", E: api.Expr{Op: api.Name, Name: "i15"}})}
	})
	c := compiled(t, p)
	if len(c.Shared) != 32 || c.Mutexes != 16 || len(c.Bodies) != 16 || len(c.Bodies[15].Locals) != 16 {
		t.Error(len(c.Shared), c.Mutexes, len(c.Bodies))
	}
	last := c.Bodies[15].Nodes[1020:]
	want := nodes("take 15 > 1021; give 0 > 1022; fetch 31, setlocal 15 > 1023; load 15, setshared 31 > 1024")
	if !code.Same(api.Code{Bodies: []api.Body{{Nodes: last}}}, api.Code{Bodies: []api.Body{{Nodes: want}}}) {
		t.Error(last)
	}
	p.Threads[15].Body = append(p.Threads[15].Body, skip())
	checkRefused(t, p)
}

// parts tells an expression of so many parts, of Int.
func parts(n int) api.Expr {
	switch {
	case n == 1:
		return lit(number(1))
	case n == 2:
		return op(api.Neg, parts(1))
	}
	return op(api.Add, parts((n-1)/2), parts(n-1-(n-1)/2))
}

func TestAsGreatAsMayBe(t *testing.T) {
	equal := func(n int) api.Stmt { return api.Stmt{Kind: api.Assert, E: op(api.Eq, parts(n-2), parts(1))} }
	c := compiled(t, one(equal(8192), equal(8191)))
	if len(c.Bodies[0].Nodes[0].Code) != 8192 || len(c.Bodies[0].Nodes[1].Code) != 8191 {
		t.Error(len(c.Bodies[0].Nodes[0].Code))
	}
	checkRefused(t, one(equal(8193)))
	// A program whose text is too long has a code as well.
	p := one(times(30, func(int) api.Stmt { return equal(8000) })...)
	if _, err := tree.Print(p); err != api.ErrLong {
		t.Fatal(err)
	}
	compiled(t, tree.Copy(p))
}

func TestAsDeepAsMayBe(t *testing.T) {
	for _, kind := range []int{api.If, api.While} {
		s := skip()
		for range 32 {
			s = api.Stmt{Kind: kind, E: yes(), Body: []api.Stmt{skip(), s}}
		}
		compiled(t, one(s))
		if got, err := compile.Statement(one(s), 0, 64); got.Kind != api.Skip || err != api.OK {
			t.Error(got, err)
		}
		checkNoStatement(t, one(s), 0, 65)
		checkRefused(t, one(api.Stmt{Kind: kind, E: yes(), Body: []api.Stmt{s}}))
	}
	s := skip()
	for range 32 {
		s = api.Stmt{Kind: api.If, E: yes(), Else: []api.Stmt{s}}
	}
	c := compiled(t, one(s, skip()))
	for i, n := range c.Bodies[0].Nodes[:32] {
		if n.Next != 33 || n.Alt != i+1 {
			t.Error(i, n)
		}
	}
	// Many loops, one behind the other.
	compiled(t, one(times(340, func(int) api.Stmt {
		return api.Stmt{Kind: api.While, E: yes(), Body: []api.Stmt{{Kind: api.If, E: yes()}, skip()}}
	})...))
}

// Wrong programs

func TestProgramsThatMayNotBe(t *testing.T) {
	for s, want := range map[string]api.Errno{
		"":                          api.ErrLong,
		"shared x int; mutex m;":    api.ErrLong,
		"thread t { } thread t { }": api.ErrThere,
		"shared x int; thread t { local x int; skip; }":                             api.ErrThere,
		"mutex x; thread t { local x int; skip; }":                                  api.ErrThere,
		"thread t { lock m; }":                                                      api.ErrMissing,
		"thread t { skip; i = 1; }":                                                 api.ErrMissing,
		"shared x int; thread t { lock x; }":                                        api.ErrMissing,
		"mutex m; thread t { m = 1; }":                                              api.ErrMissing,
		"mutex m; thread t { assert m; }":                                           api.ErrMissing,
		"thread t { skip; } thread u { local i int; i = 1; t = 1; }":                api.ErrMissing,
		"thread t { local i int; } thread u { i = 1; }":                             api.ErrMissing,
		"thread t { assert 1; }":                                                    api.ErrType,
		"thread t { skip; if 1 { } }":                                               api.ErrType,
		"thread t { skip; while 0.5 { } }":                                          api.ErrType,
		"shared x int; thread t { x = 1.5; }":                                       api.ErrType,
		"thread t { local i int; i = true; }":                                       api.ErrType,
		"thread t { assert 1 == 1.0; }":                                             api.ErrType,
		"shared x int; thread t { x = x; }":                                         check.ErrAtomic,
		"shared x int; shared y int; thread t { skip; } thread u { assert x < y; }": check.ErrAtomic,
	} {
		p := program(t, s)
		if spot := check.Check(p); spot.Err != want {
			t.Errorf("%q: %v", s, spot)
		}
		checkRefused(t, p)
	}
	for _, p := range []api.Program{
		{}, {Threads: make([]api.Thread, 17)}, {Threads: []api.Thread{{}}}, {Threads: []api.Thread{{Name: "if"}}},
		{Shared: []api.Var{{Name: "x"}}, Threads: []api.Thread{{Name: "t"}}},
		{Shared: []api.Var{{Name: "x", First: number(math.MinInt64)}}, Threads: []api.Thread{{Name: "t"}}},
		{Mutexes: []string{""}, Threads: []api.Thread{{Name: "t"}}},
		one(api.Stmt{}), one(api.Stmt{Kind: 8}), one(api.Stmt{Kind: -1}), one(skip(), api.Stmt{Kind: api.Skip, Name: "x"}),
		one(api.Stmt{Kind: api.Assert}), one(api.Stmt{Kind: api.Assert, E: lit(truth(2))}), one(api.Stmt{Kind: api.Skip, E: yes()}),
		one(api.Stmt{Kind: api.Assert, E: op(api.Load)}), one(api.Stmt{Kind: api.Assert, E: op(api.Fetch)}),
		one(api.Stmt{Kind: api.Assert, E: op(api.Not, yes(), yes())}), one(api.Stmt{Kind: api.Assert, E: op(api.Or, yes())}),
		one(api.Stmt{Kind: api.Assert, E: op(api.Eq, lit(number(-1)), lit(number(1)))}),
		one(api.Stmt{Kind: api.While, E: yes(), Else: skips(1)}), one(api.Stmt{Kind: api.Lock, Name: "m", Body: skips(1)}),
	} {
		checkRefused(t, p)
	}
	// Trees that stand in themselves.
	block := []api.Stmt{{Kind: api.While, E: yes()}}
	block[0].Body = block
	checkRefused(t, one(block...))
	kids := []api.Expr{{Op: api.And}, {Op: api.Or}}
	kids[0].Kids, kids[1].Kids = kids, kids
	checkRefused(t, one(api.Stmt{Kind: api.Assert, E: op(api.And, kids...)}))
}

// P10.1, Statement

// sameStmt tells whether two statements are the same.
func sameStmt(a, b api.Stmt) bool { return tree.Same(one(a), one(b)) }

func TestStatements(t *testing.T) {
	p := program(t, "shared x int; mutex m; thread t { } thread u { local i int; lock m; if x < 2 { i = x; while i > 0 { i = i - 1; } skip; } "+
		"else { assert i == 1; if true { } else { x = 3; } } unlock m; } thread v { skip; }")
	u := p.Threads[1].Body
	list := []api.Stmt{
		u[0], u[1], u[1].Body[0], u[1].Body[1], u[1].Body[1].Body[0], u[1].Body[2],
		u[1].Else[0], u[1].Else[1], u[1].Else[1].Else[0], u[2],
	}
	for i, want := range list {
		if got, err := compile.Statement(p, 1, i); !sameStmt(got, want) || err != api.OK {
			t.Errorf("%d: %v, %v; not %v", i, got, err, want)
		}
	}
	if s, err := compile.Statement(p, 2, 0); !sameStmt(s, skip()) || err != api.OK {
		t.Error(s, err)
	}
	for _, no := range [][2]int{
		{0, 0}, {0, -1}, {1, -1}, {1, 10}, {1, math.MaxInt}, {1, math.MinInt}, {2, 1}, {3, 0}, {-1, 0}, {-1, -1},
		{math.MaxInt, 0}, {math.MinInt, 0}, {math.MaxInt, math.MaxInt}, {1 << 32, 1 << 32}, {1 << 32, 0}, {1, 1 << 32},
	} {
		checkNoStatement(t, p, no[0], no[1])
	}
	// A fault of another thread is one of the program.
	p.Threads[2].Body = []api.Stmt{{}}
	checkNoStatement(t, p, 1, 0)
}
