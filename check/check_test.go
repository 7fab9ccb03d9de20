package check_test

import (
	"fmt"
	"strings"
	"testing"

	"assize/api"
	"assize/check"
	"assize/tree"
)

// times tells as many of something, each by its number.
func times[T any](n int, make func(i int) T) []T {
	var list []T
	for i := range n {
		list = append(list, make(i))
	}
	return list
}

func variable(s string) func(int) api.Var {
	return func(i int) api.Var { return api.Var{Name: fmt.Sprint(s, i), First: number(0)} }
}

func emptyThread(i int) api.Thread { return api.Thread{Name: fmt.Sprint("t", i)} }

func mutexes(i int) string { return fmt.Sprint("m", i) }

// P7.1, kind by kind

func TestWhatMayBe(t *testing.T) {
	for _, s := range []string{
		"thread t { }",
		"thread t { skip; } thread u { } thread v { skip; }",
		"shared x int = -3; shared y real = -inf; shared z bool = true; shared n real = nan; thread t { }",
		"mutex m; thread t { lock m; unlock m; unlock m; lock m; lock m; }",
		"shared x int; thread t { local i int; i = x; x = i; assert x == i; if x < 3 { x = 2; } while x != i { i = x; } }",
		"shared x real; thread t { local i real; x = i * i + 0.5; i = x * 2.0 - -i; }",
		"thread t { local a int; local b int; a = a + b * a; b = a; }",
		"thread t { local i int; skip; } thread u { local i bool; assert i; }",
		"thread t { local t int; t = 1; }",
		"thread t { local u int; u = 1; } thread u { local t bool; t = true; }",
		"thread t { if true { } else { } while false { } }",
	} {
		checkText(t, s, fine())
	}
}

func TestTooMuch(t *testing.T) {
	long := spot(api.ErrLong, -1, -1)
	checkTree(t, api.Program{Shared: times(33, variable("x")), Mutexes: times(17, mutexes)}, long)
	checkTree(t, api.Program{Shared: times(3, variable("x"))}, long)
	checkTree(t, api.Program{Threads: times(16, emptyThread)}, fine())
	checkTree(t, api.Program{Threads: times(17, emptyThread)}, long)
	threads := times(2, emptyThread)
	checkTree(t, api.Program{Shared: times(32, variable("x")), Mutexes: times(16, mutexes), Threads: threads}, fine())
	checkTree(t, api.Program{Shared: times(33, variable("x")), Threads: threads}, long)
	checkTree(t, api.Program{Mutexes: times(17, mutexes), Threads: threads}, long)
	threads[1].Locals = times(16, variable("x"))
	checkTree(t, api.Program{Threads: threads}, fine())
	threads[1].Locals = times(17, variable("x"))
	checkTree(t, api.Program{Threads: threads}, spot(api.ErrLong, 1, -1))
	checkTree(t, api.Program{Mutexes: times(17, mutexes), Threads: threads}, long)
	threads[0].Body = times(1025, func(int) api.Stmt { return skip() })
	checkTree(t, api.Program{Threads: threads}, spot(api.ErrLong, 0, -1))
}

// nested tells an If with n statements in all, some of them in its Body, some in its Else.
func nested(n int) api.Stmt {
	s := api.Stmt{Kind: api.If, E: lit(truth(1))}
	s.Body = times((n-1)/2, func(int) api.Stmt { return skip() })
	s.Else = times(n-1-len(s.Body), func(int) api.Stmt { return skip() })
	return s
}

func TestTooManyStatements(t *testing.T) {
	skips := func(n int) []api.Stmt { return times(n, func(int) api.Stmt { return skip() }) }
	loop := func(n int) api.Stmt { return api.Stmt{Kind: api.While, E: lit(truth(0)), Body: skips(n - 1)} }
	checkTree(t, one(skips(1024)...), fine())
	checkTree(t, one(skips(1025)...), spot(api.ErrLong, 0, -1))
	checkTree(t, one(nested(1024)), fine())
	checkTree(t, one(nested(1025)), spot(api.ErrLong, 0, -1))
	checkTree(t, one(loop(1024)), fine())
	checkTree(t, one(loop(1025)), spot(api.ErrLong, 0, -1))
	checkTree(t, one(loop(500), nested(500), skip()), fine())
	checkTree(t, one(append(skips(23), loop(500), nested(502))...), spot(api.ErrLong, 0, -1))
	// Each thread has its own.
	p := api.Program{Threads: times(16, emptyThread)}
	for i := range p.Threads {
		p.Threads[i].Body = skips(1024)
	}
	checkTree(t, p, fine())
	p.Threads[15].Body = append(p.Threads[15].Body, skip())
	checkTree(t, p, spot(api.ErrLong, 15, -1))
	// It is the thread's, and ahead of its statements'.
	p.Threads[15].Body[0].E = parts(8193)
	checkTree(t, p, spot(api.ErrLong, 15, -1))
	p.Threads[14].Body[7].E = parts(8193)
	checkTree(t, p, spot(api.ErrLong, 14, 7))
}

// parts tells an expression of so many parts, of Int.
func parts(n int) api.Expr {
	switch {
	case n == 1:
		return lit(number(1))
	case n == 2:
		return op(api.Neg, parts(1))
	}
	return op(api.Add, parts((n-1)/2), parts(n-1-(n-1)/2))
}

func TestTooManyParts(t *testing.T) {
	equal := func(n int) api.Expr { return op(api.Eq, parts(n-2), parts(1)) }
	if len(flat(equal(8192))) != 8192 {
		t.Fatal("no such expression")
	}
	checkTree(t, one(skip(), assert(equal(8192)), assert(equal(8191))), fine())
	checkTree(t, one(skip(), assert(equal(8193)), assert(equal(8192))), spot(api.ErrLong, 0, 1))
	for _, kind := range []int{api.Assign, api.Lock, api.Unlock, api.Assert, api.If, api.While, api.Skip, 0, 8} {
		s := api.Stmt{Kind: kind, E: parts(8193)}
		checkTree(t, one(nested(3), s), spot(api.ErrLong, 0, 3))
		s.E = parts(8192)
		if got := check.Check(one(s)); got.Err == api.ErrLong {
			t.Error(kind, got)
		}
	}
	// Each Expr in it counts, whatever it is; and those of a list without an end, too.
	wide := api.Expr{Op: api.Lit, Kids: make([]api.Expr, 8191)}
	checkTree(t, one(assert(wide)), spot(api.ErrArg, 0, 0))
	wide.Kids = append(wide.Kids, api.Expr{})
	checkTree(t, one(assert(wide)), spot(api.ErrLong, 0, 0))
	inner := nested(4)
	inner.Else[1].E = parts(9000)
	inner.E = parts(9000)
	checkTree(t, one(skip(), api.Stmt{Kind: api.While, Body: []api.Stmt{skip(), nested(4), inner}}), spot(api.ErrLong, 0, 7))
	inner.E = lit(truth(1))
	checkTree(t, one(skip(), api.Stmt{Kind: api.While, Body: []api.Stmt{skip(), nested(4), inner}}), spot(api.ErrLong, 0, 10))
}

// A tree that stands in itself is not gone through without an end.
func TestTreesInThemselves(t *testing.T) {
	block := []api.Stmt{{Kind: api.While, E: lit(truth(1))}}
	block[0].Body = block
	checkTree(t, one(block...), spot(api.ErrLong, 0, -1))
	kids := []api.Expr{{Op: api.And}, {Op: api.Or}}
	kids[0].Kids, kids[1].Kids = kids, kids
	checkTree(t, one(skip(), assert(op(api.And, kids...))), spot(api.ErrLong, 0, 1))
	checkType(t, one(), 0, op(api.And, kids...), 0, api.ErrArg)
}

func TestNotPrinted(t *testing.T) {
	arg := spot(api.ErrArg, -1, -1)
	bad := []api.Var{
		{Name: "1x", First: number(0)}, {Name: "if", First: number(0)}, {Name: "", First: number(0)},
		{Name: strings.Repeat("x", 25), First: number(0)}, {Name: "x"}, {Name: "x", First: number(-1 << 63)},
		{Name: "x", First: truth(2)}, {Name: "x", First: bits(api.NaN + 1)}, {Name: "x", First: api.Value{T: 4}},
	}
	good := api.Var{Name: strings.Repeat("x", 24), First: bits(api.NaN)}
	for _, v := range bad {
		checkTree(t, api.Program{Shared: []api.Var{good, v}, Threads: times(2, emptyThread)}, arg)
		p := api.Program{Threads: times(3, emptyThread)}
		p.Threads[1].Locals = []api.Var{good, v}
		checkTree(t, p, spot(api.ErrArg, 1, -1))
	}
	for _, s := range []string{"1x", "lock", "", "x y", "é", strings.Repeat("x", 25)} {
		checkTree(t, api.Program{Mutexes: []string{"a", s}, Threads: times(2, emptyThread)}, arg)
		p := api.Program{Threads: times(3, emptyThread)}
		p.Threads[2].Name = s
		checkTree(t, p, spot(api.ErrArg, 2, -1))
	}
	// What stands ahead in the text is told first.
	p := api.Program{Threads: times(3, emptyThread)}
	p.Threads[1].Body = []api.Stmt{skip(), {}}
	p.Threads[2].Name = ""
	checkTree(t, p, spot(api.ErrArg, 1, 1))
	p.Threads[1].Locals = []api.Var{{}}
	checkTree(t, p, spot(api.ErrArg, 1, -1))
	p.Mutexes = []string{""}
	checkTree(t, p, arg)
}

func TestStatementsNotPrinted(t *testing.T) {
	is, e, block := lit(truth(1)), lit(number(1)), []api.Stmt{skip()}
	bad := []api.Stmt{
		{}, {Kind: -1}, {Kind: 8}, {Kind: api.Skip + 1, Name: "x", E: e},
		{Kind: api.Assign, E: e}, {Kind: api.Assign, Name: "x"}, {Kind: api.Assign, Name: "if", E: e},
		{Kind: api.Assign, Name: "x", E: lit(number(-1))}, {Kind: api.Assign, Name: "x", E: e, Body: block},
		{Kind: api.Assign, Name: "x", E: e, Else: block}, {Kind: api.Assign, Name: "x", E: op(api.Add, e)},
		{Kind: api.Lock}, {Kind: api.Lock, Name: "m", E: e}, {Kind: api.Lock, Name: "m", Body: block},
		{Kind: api.Unlock}, {Kind: api.Unlock, Name: "m", E: e}, {Kind: api.Unlock, Name: "m", Else: block},
		{Kind: api.Unlock, Name: "m", E: api.Expr{Kids: []api.Expr{{}}}},
		{Kind: api.Assert}, {Kind: api.Assert, E: is, Name: "x"}, {Kind: api.Assert, E: is, Body: block},
		{Kind: api.Assert, E: lit(truth(2))}, {Kind: api.Assert, E: name("true")},
		{Kind: api.If}, {Kind: api.If, E: is, Name: "x"}, {Kind: api.If, Body: block, Else: block},
		{Kind: api.While, Body: block}, {Kind: api.While, E: is, Name: "x"}, {Kind: api.While, E: is, Else: block},
		{Kind: api.Skip, Name: "x"}, {Kind: api.Skip, E: e}, {Kind: api.Skip, Body: block}, {Kind: api.Skip, Else: block},
	}
	for _, s := range bad {
		around := api.Stmt{Kind: api.If, E: is, Body: []api.Stmt{skip(), s}, Else: []api.Stmt{{Kind: 9}}}
		checkTree(t, one(s), spot(api.ErrArg, 0, 0))
		checkTree(t, one(skip(), around, api.Stmt{}), spot(api.ErrArg, 0, 3))
		around.Body, around.Else = block, []api.Stmt{s, {}}
		checkTree(t, one(around), spot(api.ErrArg, 0, 2))
		// The outer statement is told ahead of what is in it.
		around.E = api.Expr{}
		checkTree(t, one(around), spot(api.ErrArg, 0, 0))
	}
}

// deep tells a statement with so many blocks in one another, all of statements of a kind; inner stands in the last one.
func deep(kind, n int, inner ...api.Stmt) api.Stmt {
	s := api.Stmt{Kind: kind, E: lit(truth(1)), Body: inner}
	for range n - 1 {
		s = api.Stmt{Kind: kind, E: lit(truth(1)), Body: []api.Stmt{s}}
	}
	return s
}

func TestTooDeep(t *testing.T) {
	for _, kind := range []int{api.If, api.While} {
		checkTree(t, one(deep(kind, 32, skip())), fine())
		checkTree(t, one(deep(kind, 33)), fine())
		checkTree(t, one(deep(kind, 33, skip())), spot(api.ErrArg, 0, 33))
		checkTree(t, one(skip(), deep(kind, 40, skip(), skip())), spot(api.ErrArg, 0, 34))
		checkTree(t, one(deep(kind, 32, skip(), api.Stmt{}, deep(kind, 1, skip()))), spot(api.ErrArg, 0, 33))
	}
	// Blocks of an Else count as well.
	s := skip()
	for range 32 {
		s = api.Stmt{Kind: api.If, E: lit(truth(1)), Body: []api.Stmt{skip()}, Else: []api.Stmt{s}}
	}
	checkTree(t, one(s), fine())
	s = api.Stmt{Kind: api.If, E: lit(truth(1)), Body: []api.Stmt{skip()}, Else: []api.Stmt{s}}
	checkTree(t, one(s), spot(api.ErrArg, 0, 65))
}

func TestTooHigh(t *testing.T) {
	e := lit(truth(1))
	for range 31 {
		e = op(api.Not, e)
	}
	checkTree(t, one(assert(e)), fine())
	checkType(t, one(), 0, e, api.Bool, api.OK)
	e = op(api.Not, e)
	checkTree(t, one(skip(), assert(e)), spot(api.ErrArg, 0, 1))
	checkType(t, one(), 0, e, 0, api.ErrArg)
}

// A program may be whose text is too long.
func TestTextTooLong(t *testing.T) {
	is := op(api.Eq, parts(8000), parts(1))
	p := one(times(10, func(int) api.Stmt { return assert(is) })...)
	if _, err := tree.Print(p); err != api.ErrLong {
		t.Fatal(err)
	}
	checkTree(t, p, fine())
	checkType(t, p, 0, is, api.Bool, api.OK)
	checkType(t, p, 0, parts(100000), api.Int, api.OK)
	checkType(t, p, 0, op(api.Not, parts(100000)), 0, api.ErrType)
}

func TestNamesTwice(t *testing.T) {
	for s, want := range map[string]api.Spot{
		"shared a int; shared a int; thread t { }":                                      spot(api.ErrThere, -1, -1),
		"shared a int; shared b int; shared a bool; thread t { }":                       spot(api.ErrThere, -1, -1),
		"mutex b; mutex a; mutex a; thread t { }":                                       spot(api.ErrThere, -1, -1),
		"shared a int; mutex a; thread t { }":                                           spot(api.ErrThere, -1, -1),
		"mutex a; shared a int; thread t { }":                                           spot(api.ErrThere, -1, -1),
		"thread t { } thread t { }":                                                     spot(api.ErrThere, 1, -1),
		"thread t { } thread u { } thread t { }":                                        spot(api.ErrThere, 2, -1),
		"shared t int; thread u { } thread t { }":                                       spot(api.ErrThere, 1, -1),
		"mutex t; thread t { } thread u { }":                                            spot(api.ErrThere, 0, -1),
		"thread t { local i int; local i int; }":                                        spot(api.ErrThere, 0, -1),
		"thread t { local i int; local j int; } thread u { local j int; local j int; }": spot(api.ErrThere, 1, -1),
		"shared x int; thread t { } thread u { local x int; }":                          spot(api.ErrThere, 1, -1),
		"mutex m; thread t { local i int; local m bool; }":                              spot(api.ErrThere, 0, -1),
		"thread t { local i int; local i int; } thread t { }":                           spot(api.ErrThere, 0, -1),
		"mutex a; mutex a; thread t { local a int; }":                                   spot(api.ErrThere, -1, -1),
		"thread t { local u int; } thread u { local i int; } thread v { local t int; }": fine(),
		"thread t { local t int; } thread u { local u int; local t int; }":              fine(),
	} {
		checkText(t, s, want)
	}
}

func TestNamesMissing(t *testing.T) {
	const ahead = "shared x int; mutex m; thread t { local i int; local b bool; } thread u { local j int; skip; "
	for s, want := range map[string]api.Spot{
		"lock m; unlock m; x = 1; j = 1; assert x == j;": fine(),
		"lock x;":                       spot(api.ErrMissing, 1, 1),
		"lock j;":                       spot(api.ErrMissing, 1, 1),
		"lock u;":                       spot(api.ErrMissing, 1, 1),
		"unlock x;":                     spot(api.ErrMissing, 1, 1),
		"unlock n;":                     spot(api.ErrMissing, 1, 1),
		"m = 1;":                        spot(api.ErrMissing, 1, 1),
		"u = 1;":                        spot(api.ErrMissing, 1, 1),
		"i = 1;":                        spot(api.ErrMissing, 1, 1),
		"y = 1;":                        spot(api.ErrMissing, 1, 1),
		"j = j; j = i;":                 spot(api.ErrMissing, 1, 2),
		"j = m;":                        spot(api.ErrMissing, 1, 1),
		"j = j + t;":                    spot(api.ErrMissing, 1, 1),
		"j = 1 + (2 * -i);":             spot(api.ErrMissing, 1, 1),
		"assert b;":                     spot(api.ErrMissing, 1, 1),
		"assert true || real(i) < 0.0;": spot(api.ErrMissing, 1, 1),
		"if b { lock n; }":              spot(api.ErrMissing, 1, 1),
		"if true { lock n; }":           spot(api.ErrMissing, 1, 2),
		"if true { skip; skip; } else { skip; lock n; }": spot(api.ErrMissing, 1, 5),
		"while b { }": spot(api.ErrMissing, 1, 1),
		"while true { while true { } assert int(y) == 1; }":   spot(api.ErrMissing, 1, 3),
		"while true { if true { } else { lock n; } } lock n;": spot(api.ErrMissing, 1, 3),
		"assert 1; x = x; if true { skip; } else { j = y; }":  spot(api.ErrMissing, 1, 5),
	} {
		checkText(t, ahead+s+"}", want)
	}
}

func TestTypesOfStatements(t *testing.T) {
	const ahead = "shared x int; shared y real; shared z bool; thread t { local i int; local r real; local b bool; "
	for _, s := range []string{
		"x = 1;", "y = 1.5;", "z = true;", "i = 1;", "r = nan;", "b = false;", "x = i;", "y = r;", "z = b;", "i = x;",
		"assert b;", "assert z;", "if b { }", "while z { }", "if x == 1 { }", "while y < r { }",
	} {
		checkText(t, ahead+s+"}", fine())
	}
	for _, s := range []string{
		"x = 1.5;", "x = true;", "y = 1;", "y = true;", "z = 1;", "z = 1.5;", "i = r;", "i = b;", "r = i;", "r = b;", "b = i;", "b = r;",
		"i = i + r;", "b = !i;", "b = b < b;", "b = i == r;", "r = r % r;", "i = int(i);", "r = real(r);", "b = -b;", "b = b + b;",
		"assert 1;", "assert i;", "assert y;", "if x { }", "if 1.5 { }", "while i { }", "while r { }",
		"assert 1 && true;", "if !1 { }", "while 1 == 1.0 { }",
	} {
		checkText(t, ahead+s+"}", spot(api.ErrType, 0, 0))
		checkText(t, ahead+"if b { skip; } else { while b { "+s+" } } assert 1; }", spot(api.ErrType, 0, 3))
	}
}

func TestTouchedTwice(t *testing.T) {
	const ahead = "shared x int; shared y int; shared b bool; mutex m; thread t { local i int; local j int; "
	for _, s := range []string{
		"x = i + j * i;", "i = x + j;", "i = j;", "assert x == i;", "if b || i == j { }", "while !b { x = 1; y = 2; i = x; j = y; }", "lock m;",
	} {
		checkText(t, ahead+s+"}", fine())
	}
	for _, s := range []string{
		"x = x;", "x = y;", "y = i + x;", "i = x + x;", "i = x + y;", "i = int(real(x)) + (i - -y);", "b = x == 1;", "b = !b;",
		"assert x == y;", "assert b && b;", "if b || x == 1 { }", "while b == b { skip; }", "assert x == 1 && y == 1;",
	} {
		checkText(t, ahead+s+"}", spot(check.ErrAtomic, 0, 0))
		checkText(t, ahead+"if true { skip; i = x; } else { while true { "+s+" } } i = x + x; }", spot(check.ErrAtomic, 0, 4))
	}
}

// Each kind comes ahead of each later one, also if that is ahead in the text.
func TestKindsInTheirOrder(t *testing.T) {
	spoil := []func(*api.Thread){
		func(th *api.Thread) { th.Body[0].E = parts(8193) },
		func(th *api.Thread) { th.Body[1].Kind = 9 },
		func(th *api.Thread) { th.Locals = append(th.Locals, th.Locals[0]) },
		func(th *api.Thread) { th.Body[2].E = name("nowhere") },
		func(th *api.Thread) { th.Body[3].E = lit(truth(1)) },
		func(th *api.Thread) { th.Body[4].E = op(api.Add, name("x"), name("y")) },
	}
	want := []api.Spot{
		spot(api.ErrLong, 1, 0), spot(api.ErrArg, 1, 1), spot(api.ErrThere, 1, -1),
		spot(api.ErrMissing, 1, 2), spot(api.ErrType, 1, 3), spot(check.ErrAtomic, 1, 4),
	}
	thread := " { local i int; local j int; assert i == 1; skip; i = 1; i = 2; i = x; }"
	text := "shared x int; shared y int; thread t" + thread + " thread u" + thread
	checkText(t, text, fine())
	for kind := range spoil {
		p := program(t, text)
		spoil[kind](&p.Threads[1])
		checkTree(t, p, want[kind])
		for _, later := range spoil[kind+1:] {
			later(&p.Threads[0])
			checkTree(t, p, want[kind])
		}
	}
}

// P7.2

func TestTypesOfExpressions(t *testing.T) {
	p := program(t, "shared i int; shared b bool; shared r real; mutex m; thread t { local j int; } thread u { local c bool; local s real; }")
	operands := map[string][]api.Expr{
		"i": {name("i"), lit(number(7))}, "b": {name("b"), name("c"), lit(truth(0))},
		"r": {name("r"), name("s"), lit(bits(api.NaN))}, "": {op(api.Neg, name("b")), op(api.Add, name("i"), name("r"))},
	}
	types := map[string]api.Type{"i": api.Int, "b": api.Bool, "r": api.Real}
	checked := func(e api.Expr, letter string) {
		if letter == "" {
			checkType(t, p, 1, e, 0, api.ErrType)
		} else {
			checkType(t, p, 1, e, types[letter], api.OK)
		}
	}
	for a, list := range operands {
		for _, left := range list {
			checked(left, a)
			for o := api.Neg; o <= api.ToReal; o++ {
				checked(op(o, left), made(o, a))
			}
			for b, list := range operands {
				for _, right := range list {
					for o := api.Or; o <= api.Mod; o++ {
						checked(op(o, left, right), made(o, a+b+strings.Repeat("?", 2-len(a)-len(b))))
					}
				}
			}
		}
	}
}

func TestTypeOfRefuses(t *testing.T) {
	p := program(t, "shared x int; mutex m; thread t { local i int; } thread u { local b bool; }")
	for _, thread := range []int{-1, 2, 1 << 40, -1 << 63} {
		checkType(t, p, thread, name("x"), 0, api.ErrArg)
	}
	for _, s := range []string{"m", "t", "b", "y", "x + y", "y + true", "-(1 + (2 + b))", "true + b", "1.5 + x == y"} {
		checkType(t, p, 0, expr(t, s), 0, api.ErrMissing)
	}
	for _, s := range []string{"i", "!i", "m && b"} {
		checkType(t, p, 1, expr(t, s), 0, api.ErrMissing)
	}
	for _, e := range []api.Expr{
		{}, {Op: api.Name}, name("if"), name(strings.Repeat("x", 25)), lit(number(-1)), lit(api.Value{}), {Op: 20, Kids: []api.Expr{name("x")}},
		op(api.Add, name("x")), op(api.Neg), op(api.Neg, name("x"), name("x")), op(api.Add, name("y"), lit(truth(2))),
		{Op: api.Name, Name: "x", Lit: number(1)}, {Op: api.Lit, Lit: number(1), Name: "x"}, {Op: api.Load}, {Op: api.Lit, Lit: number(1), Kids: []api.Expr{name("x")}},
	} {
		checkType(t, p, 0, e, 0, api.ErrArg)
	}
	// However many shared variables it names.
	checkType(t, p, 0, expr(t, "x + x * x == x && x < i"), api.Bool, api.OK)
	// p may not be.
	for _, s := range []string{"", "thread t { } thread t { }", "thread t { assert 1; }", "shared x int; thread t { x = x; }", "thread t { lock m; }"} {
		checkType(t, program(t, s), 0, expr(t, "1"), 0, api.ErrArg)
	}
}
