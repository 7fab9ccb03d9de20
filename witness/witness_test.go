package witness_test

import (
	"math"
	"slices"
	"strconv"
	"strings"
	"testing"

	"assize/api"
	"assize/witness"
)

const loop = "thread t { while true { } }"

// P18.1: what is refused

func TestProgramsThatMayNotBe(t *testing.T) {
	for _, p := range []api.Program{
		{},
		program(t, "shared x int; thread t { x = x + 1; }"),
		program(t, "thread t { x = 1; }"),
		program(t, "mutex m; mutex m; thread t { }"),
		program(t, "thread t { assert 1; }"),
		{Threads: []api.Thread{{Name: "if"}}},
		{Threads: []api.Thread{{Name: "t", Body: []api.Stmt{{Kind: 8}}}}},
		{Threads: times(17, api.Thread{Name: "t"})},
	} {
		for _, schedule := range [][]int{nil, {0}, {-1}, times(1025, 0)} {
			checkRefused(t, p, 100, schedule, api.ErrArg)
		}
	}
}

func TestLimitsThatMayNotBe(t *testing.T) {
	p := program(t, loop)
	for _, work := range []int{0, -1, 65537, 1 << 32, math.MinInt, math.MaxInt} {
		for _, schedule := range [][]int{nil, {0}, {1}, times(1025, 0)} {
			checkRefused(t, p, work, schedule, api.ErrArg)
		}
	}
	checkLines(t, p, 1, nil, "running")
	checkLines(t, p, 65536, []int{0}, "0 t while true {}", "running")
}

func TestLongestSchedules(t *testing.T) {
	p := program(t, loop)
	for _, n := range []int{1025, 1026, 5000} {
		checkRefused(t, p, 65536, times(n, 0), api.ErrLong)
		// That is told ahead of steps that are not made.
		checkRefused(t, p, 65536, times(n, 7), api.ErrLong)
		checkRefused(t, p, 1, times(n, 0), api.ErrLong)
	}
	s, err := againstSecond(t, p, 65536, times(1024, 0))
	if len(s.Marks) != 1024 || s.How != api.Running || s.Who != -1 || err != api.OK {
		t.Error(len(s.Marks), s.How, s.Who, err)
	}
	l, _ := witness.Lines(p, 65536, times(1024, 0))
	if len(l) != 1025 || l[1023] != "1023 t while true {}" || l[1024] != "running" {
		t.Error(len(l), l[1023:])
	}
}

func TestStepsThatAreNotMade(t *testing.T) {
	p := program(t, "shared x int; mutex m; thread a { lock m; x = 1; } thread b { lock m; } thread c { assert 1 / 0 == 0; }")
	for _, list := range [][]int{
		{-1}, {3}, {16}, {math.MinInt}, {math.MaxInt}, {0, -1}, {0, 3}, {1 << 32},
		{0, 1}, {1, 0}, {0, 0, 0}, {0, 0, 1}, {2, 0}, {2, 1}, {2, 2}, {0, 2, 0},
	} {
		checkRefused(t, p, 100, list, api.ErrState)
	}
	for _, list := range [][]int{{0}, {0, 0}, {1}, {2}, {0, 0, 2}, {1, 2}} {
		if _, err := againstSecond(t, p, 100, list); err != api.OK {
			t.Error(list, err)
		}
	}
	// One that locks what it holds itself waits for ever, while others go on.
	p = program(t, "mutex m; thread a { lock m; lock m; } thread b { skip; }")
	checkRefused(t, p, 100, []int{0, 0}, api.ErrState)
	checkLines(t, p, 100, []int{0, 1}, "0 a lock m; // holds m", "1 b skip;", "deadlock")
	checkRefused(t, p, 100, []int{0, 1, 1}, api.ErrState)
	// Behind the limit nobody steps.
	checkRefused(t, program(t, "thread a { skip; skip; } thread b { skip; }"), 1, []int{0, 0, 1}, api.ErrState)
}

// P18.1: how it ended

func TestLastLines(t *testing.T) {
	for _, c := range []struct {
		text, schedule string
		how, who       int
		last           string
	}{
		{"thread a { }", "", api.Done, -1, "done"},
		{"thread a { } thread b { skip; }", "", api.Running, -1, "running"},
		{"thread a { } thread b { skip; }", "1", api.Done, -1, "done"},
		{"thread a { skip; } thread b { skip; }", "1", api.Running, -1, "running"},
		{"thread a { skip; } thread b { assert false; }", "1", api.Failed, 1, "assert failed in b"},
		{"thread a { assert 1 == 2; } thread b { skip; }", "1 0", api.Failed, 0, "assert failed in a"},
		{"thread a { skip; } thread b { assert int(nan) == 0; }", "0 1", api.Trapped, 1, "trap in b"},
		{"mutex m; thread a { unlock m; }", "0", api.Trapped, 0, "trap in a"},
		{"mutex m; thread a { lock m; } thread b { lock m; }", "0", api.Deadlock, -1, "deadlock"},
		{"thread a { skip; } thread b { while true { } }", "1 1 1 1 1 1", api.Overrun, 1, "limit in b"},
		{"thread a { skip; } thread b { skip; } thread c_1 { assert 1 + 1 + 1 + 1 + 1 + 1 == 0; }", "2", api.Overrun, 2, "limit in c_1"},
	} {
		p, list := program(t, c.text), schedule(c.schedule)
		s, err := witness.Story(p, 10, list)
		if s.How != c.how || s.Who != c.who || len(s.Marks) != len(list) || err != api.OK {
			t.Errorf("%s by %v: %s, %v", c.text, list, short(s), err)
		}
		l, err := witness.Lines(p, 10, list)
		if len(l) != len(list)+1 || l[len(list)] != c.last || err != api.OK {
			t.Errorf("%s by %v: %q, %v", c.text, list, l, err)
		}
	}
}

// P18.1: the lines

func TestTextsOfStatements(t *testing.T) {
	p := program(t, `mutex m; thread t { local i int; local r real;
		i = i + 2 * 3; r = -real(i); lock m; unlock m; assert !(i != 6); skip;
		if i > 0 && true { i = 1; } else { skip; } if i == 0 { skip; } while r >= 0.0 { skip; if true { } } i = -i; }`)
	checkLines(t, p, 100, times(11, 0),
		"0 t i = (i + (2 * 3));", "1 t r = -real(i);", "2 t lock m; // holds m", "3 t unlock m; // free m", "4 t assert !(i != 6);", "5 t skip;",
		"6 t if ((i > 0) && true) {}", "7 t i = 1;", "8 t if (i == 0) {}", "9 t while (r >= 0.0) {}", "10 t i = -i;", "done")
}

// shows fails if a thread's one step does not give a shared variable a value of that text.
func shows(t *testing.T, kind, e, text string) {
	t.Helper()
	p := program(t, "shared x "+kind+"; thread t { x = "+e+"; }")
	l, err := witness.Lines(p, 100, []int{0})
	if err != api.OK || len(l) != 2 || !strings.HasSuffix(l[0], "; // x = "+text) {
		t.Errorf("%s: %q, %v", e, l, err)
	}
}

func TestTextsOfValues(t *testing.T) {
	shows(t, "int", "7", "7")
	shows(t, "int", "0 - 7", "-7")
	shows(t, "int", "0", "0")
	shows(t, "int", "9223372036854775807", "9223372036854775807")
	shows(t, "int", "9223372036854775807 + 1", "-9223372036854775808")
	shows(t, "int", "-9223372036854775807", "-9223372036854775807")
	shows(t, "bool", "true", "true")
	shows(t, "bool", "true && false", "false")
	shows(t, "real", "nan", "nan")
	shows(t, "real", "-nan", "nan")
	shows(t, "real", "inf", "inf")
	shows(t, "real", "-inf", "-inf")
	shows(t, "real", "0.0", "0.0")
	shows(t, "real", "-0.0", "-0.0")
	shows(t, "real", "100.0", "100.0")
	shows(t, "real", "0.1 - 1.1", "-1.0")
	shows(t, "real", "0.1 + 0.2", "#3fd3333333333334")
	shows(t, "real", "-(0.1 + 0.2)", "#bfd3333333333334")
	shows(t, "real", "real(9223372036854775807)", "#43e0000000000000")
}

func TestTextsOfEvents(t *testing.T) {
	p := program(t, `shared x int; shared y int = -5; mutex m; mutex n;
		thread a { local i int; lock n; i = y; if y < 0 { y = i; } while x == 1 { } assert x == 4; unlock n; lock m; i = i; }
		thread b { x = 1; x = 4; lock m; lock n; }`)
	checkLines(t, p, 100, schedule("0 0 0 0 1 0 1 0 0 1 0 1"),
		"0 a lock n; // holds n", "1 a i = y; // read y", "2 a if (y < 0) {} // read y", "3 a y = i; // y = -5", "4 b x = 1; // x = 1",
		"5 a while (x == 1) {} // read x", "6 b x = 4; // x = 4", "7 a while (x == 1) {} // read x", "8 a assert (x == 4); // read x",
		"9 b lock m; // holds m", "10 a unlock n; // free n", "11 b lock n; // holds n", "deadlock")
}

// What a step that ends the run leaves as it was is told as it is then.
func TestTextsOfStepsThatAreNotDone(t *testing.T) {
	p := program(t, "shared x int = 3; mutex m; thread a { x = 1 / 0; } thread b { lock m; } thread c { unlock m; } thread d { skip; skip; x = 9; } thread e { skip; skip; lock m; }")
	checkLines(t, p, 100, schedule("0"), "0 a x = (1 / 0); // x = 3", "trap in a")
	checkLines(t, p, 100, schedule("2"), "0 c unlock m; // free m", "trap in c")
	checkLines(t, p, 100, schedule("1 2"), "0 b lock m; // holds m", "1 c unlock m; // holds m", "trap in c")
	checkLines(t, p, 3, schedule("3 3 3"), "0 d skip;", "1 d skip;", "2 d x = 9; // x = 3", "limit in d")
	checkLines(t, p, 2, schedule("4 4 4"), "0 e skip;", "1 e skip;", "2 e lock m; // free m", "limit in e")
	p = program(t, "mutex m; thread a { lock m; unlock m; }")
	checkLines(t, p, 1, schedule("0 0"), "0 a lock m; // holds m", "1 a unlock m; // holds m", "limit in a")
}

// The same names in other threads, and other threads' locals, are not mistaken for one another.
func TestNames(t *testing.T) {
	p := program(t, "shared x int; shared y int = 1; mutex n; mutex m; thread a { local i int = 1; local j int; if i == 1 { x = i; } } thread b { local j int = 1; local i int; if i == 1 { skip; } else { lock m; } y = 2; }")
	checkLines(t, p, 100, schedule("0 0 1 1 1"), "0 a if (i == 1) {}", "1 a x = i; // x = 1", "2 b if (i == 1) {}", "3 b lock m; // holds m", "4 b y = 2; // y = 2", "done")
}

// P18.1: the marks

// checkStatements fails if a schedule of one thread does other statements.
func checkStatements(t *testing.T, p api.Program, want ...int) {
	t.Helper()
	var got []int
	s, err := againstSecond(t, p, 2000, times(len(want), 0))
	for _, m := range s.Marks {
		got = append(got, m.Stmt)
	}
	if !slices.Equal(got, want) || err != api.OK {
		t.Fatalf("%s, %v; not %s", short(got), err, short(want))
	}
}

func TestNumbersOfStatements(t *testing.T) {
	checkStatements(t, program(t, "thread t { if true { skip; } else { skip; skip; } skip; }"), 0, 1, 4)
	checkStatements(t, program(t, "thread t { if false { skip; } else { skip; skip; } skip; }"), 0, 2, 3, 4)
	checkStatements(t, program(t, "thread t { if false { skip; } skip; }"), 0, 2)
	checkStatements(t, program(t, "thread t { if true { } else { skip; } skip; }"), 0, 2)
	checkStatements(t, program(t, "thread t { if false { } else { } skip; }"), 0, 1)
	checkStatements(t, program(t, "thread t { while true { } skip; }"), 0, 0, 0, 0)
	checkStatements(t, program(t, "thread t { while false { skip; skip; } skip; }"), 0, 3)
	checkStatements(t, program(t, "thread t { local i int; while i < 2 { if i == 0 { skip; } else { while i < 2 { i = 2; } } i = i + 1; } skip; }"),
		0, 1, 2, 5, 0, 1, 3, 4, 3, 5, 0, 6)
	checkStatements(t, program(t, "thread t { skip; if true { if false { skip; } else { while true { skip; } } skip; } skip; }"), 0, 1, 2, 4, 5, 4, 5, 4)
	checkStatements(t, program(t, "shared b bool; thread t { while !b { b = true; } if b { skip; } else { skip; } if !b { skip; } else { skip; } }"), 0, 1, 0, 2, 3, 5, 7)
	checkStatements(t, program(t, "thread t { local r real = nan; if r == r { skip; } if r != r { skip; } }"), 0, 2, 3)
}

// Each condition is told by the values at that step: those that others gave, too.
func TestConditionsOfOthersValues(t *testing.T) {
	p := program(t, "shared x int; thread a { while x == 0 { skip; } if x == 2 { skip; } else { skip; } } thread b { x = 1; x = 2; }")
	numbers := func(list string) []int {
		s, err := againstSecond(t, p, 100, schedule(list))
		if err != api.OK {
			t.Fatal(list, err)
		}
		var of []int
		for _, m := range s.Marks {
			if m.Thread == 0 {
				of = append(of, m.Stmt)
			}
		}
		return of
	}
	for list, want := range map[string][]int{
		"0 0 1 0 0 0":     {0, 1, 0, 2, 4},
		"0 0 1 0 1 0 0":   {0, 1, 0, 2, 3},
		"0 1 0 0 0 0":     {0, 1, 0, 2, 4},
		"1 0 0 1 0":       {0, 2, 4},
		"1 1 0 0 0":       {0, 2, 3},
		"0 0 0 0 0 0 1 1": {0, 1, 0, 1, 0, 1},
	} {
		if got := numbers(list); !slices.Equal(got, want) {
			t.Errorf("%s: %v, not %v", list, got, want)
		}
	}
}

// numbered tells the numbers from 0 on.
func numbered(n int) []int {
	var list []int
	for i := range n {
		list = append(list, i)
	}
	return list
}

func TestManyStatements(t *testing.T) {
	checkStatements(t, program(t, "thread t { "+strings.Repeat("skip; ", 1024)+"}"), numbered(1024)...)
	deep := "thread t { " + strings.Repeat("if true { ", 32) + "skip; " + strings.Repeat("} ", 32) + "}"
	checkStatements(t, program(t, deep), numbered(33)...)
	deep = "thread t { " + strings.Repeat("if false { skip; } else { ", 32) + "skip; " + strings.Repeat("} ", 32) + "}"
	var want []int
	for i := range 33 {
		want = append(want, 2*i)
	}
	checkStatements(t, program(t, deep), want...)
}

func TestMarksTellValues(t *testing.T) {
	p := program(t, "shared x int; shared y bool; thread a { local i int = 4; x = i; i = x + 1; } thread b { y = true; } thread c { local r real; local s real = 1.0; r = s / r; }")
	yes, no := api.Value{T: api.Bool, Bits: 1}, api.Value{T: api.Bool}
	one, infinite := api.Value{T: api.Real, Bits: 0x3ff << 52}, api.Value{T: api.Real, Bits: 0x7ff << 52}
	checkStory(t, p, 100, schedule("0 1 0 2"), api.Story{Marks: []api.Mark{
		{Thread: 0, Stmt: 0, Event: api.Event{Thread: 0, Kind: api.Writes, Object: 0}, Shared: []api.Value{number(4), no}, Locals: []api.Value{number(4)}},
		{Thread: 1, Stmt: 0, Event: api.Event{Thread: 1, Kind: api.Writes, Object: 1}, Shared: []api.Value{number(4), yes}},
		{Thread: 0, Stmt: 1, Event: api.Event{Thread: 0, Kind: api.Reads, Object: 0}, Shared: []api.Value{number(4), yes}, Locals: []api.Value{number(5)}},
		{Thread: 2, Stmt: 0, Event: api.Event{Thread: 2, Kind: api.Local, Object: 0}, Shared: []api.Value{number(4), yes}, Locals: []api.Value{infinite, one}},
	}, How: api.Done, Who: -1})
	checkStory(t, p, 100, nil, api.Story{How: api.Running, Who: -1})
	// A step that does not come to its end leaves them as they were.
	checkStory(t, p, 1, schedule("0"), api.Story{Marks: []api.Mark{
		{Thread: 0, Stmt: 0, Event: api.Event{Thread: 0, Kind: api.Writes, Object: 0}, Shared: []api.Value{number(0), no}, Locals: []api.Value{number(4)}},
	}, How: api.Overrun, Who: 0})
}

func TestGreatestPrograms(t *testing.T) {
	p := api.Program{}
	for i := range 32 {
		p.Shared = append(p.Shared, api.Var{Name: "x" + strconv.Itoa(i), First: number(int64(i))})
	}
	for i := range 16 {
		p.Mutexes = append(p.Mutexes, "m"+strconv.Itoa(i))
		th := api.Thread{Name: "t" + strconv.Itoa(i)}
		for j := range 16 {
			th.Locals = append(th.Locals, api.Var{Name: "i" + strconv.Itoa(j), First: number(int64(100*i + j))})
		}
		up := api.Expr{Op: api.Add, Kids: []api.Expr{{Op: api.Name, Name: "i" + strconv.Itoa(i)}, {Op: api.Name, Name: "i15"}}}
		th.Body = []api.Stmt{{Kind: api.Lock, Name: p.Mutexes[i]}, {Kind: api.Assign, Name: p.Shared[31-i].Name, E: up}, {Kind: api.Unlock, Name: p.Mutexes[i]}}
		p.Threads = append(p.Threads, th)
	}
	var list []int
	for range 3 {
		list = append(list, 15, 0, 7, 8, 14, 1, 2, 3, 4, 5, 6, 9, 10, 11, 12, 13)
	}
	s, err := againstSecond(t, p, 6, list)
	if s.How != api.Done || len(s.Marks) != 48 || len(s.Marks[0].Shared) != 32 || len(s.Marks[0].Locals) != 16 || err != api.OK {
		t.Error(short(s), err)
	}
}

// P18.2

func TestProves(t *testing.T) {
	p := program(t, "shared x int; thread a { x = 1; x = 0; } thread b { assert x == 0; } thread c { assert 1 / x == 1; }")
	checkProved(t, p, 100, api.Failed, 1, schedule("0 1"), true)
	checkProved(t, p, 100, api.Trapped, 2, schedule("2"), true)
	checkProved(t, p, 100, api.Trapped, 2, schedule("0 0 1 2"), true)
	checkProved(t, p, 3, api.Overrun, 2, schedule("0 2"), true)
	checkProved(t, p, 3, api.Overrun, 1, schedule("0 1"), true)
	for _, who := range []int{-2, -1, 0, 2, 3, math.MinInt, math.MaxInt} {
		checkProved(t, p, 100, api.Failed, who, schedule("0 1"), false)
	}
	for _, how := range []int{-1, api.Running, api.Done, api.Trapped, api.Deadlock, api.Overrun, 6, 256 + api.Failed, math.MinInt} {
		checkProved(t, p, 100, how, 1, schedule("0 1"), false)
		checkProved(t, p, 100, how, -1, schedule("0 1"), false)
	}
	// A shorter beginning does not end, and behind the end there is no step.
	for _, list := range []string{"", "0", "1", "0 0", "0 0 1", "0 1 0", "0 1 1", "0 1 2", "1 0", "0 9", "9"} {
		checkProved(t, p, 100, api.Failed, 1, schedule(list), false)
	}
	checkProved(t, p, 100, api.Failed, 1, []int{-1}, false)
	for _, work := range []int{0, -1, 1, 3, 65537, math.MinInt, math.MaxInt} {
		checkProved(t, p, work, api.Failed, 1, schedule("0 1"), false)
	}
	checkProved(t, p, 4, api.Failed, 1, schedule("0 1"), true)
	checkProved(t, p, 65536, api.Failed, 1, schedule("0 1"), true)
	checkProved(t, api.Program{}, 100, api.Failed, 1, schedule("0 1"), false)
	checkProved(t, program(t, "thread t { x = 1; }"), 100, 0, 0, nil, false)
}

func TestOtherVerdictsAreNotProved(t *testing.T) {
	p := program(t, "thread a { assert false; }")
	for _, kind := range []int{api.Open, api.Safe, api.Spent, 4, -1, 256 + api.Fails, math.MinInt, math.MaxInt} {
		for _, v := range []api.Verdict{{}, {How: api.Failed, Schedule: []int{0}}, {How: api.Running, Who: -1}} {
			v.Kind = kind
			if witness.Proves(p, 100, v) {
				t.Error(v)
			}
		}
	}
	checkProved(t, p, 100, api.Failed, 0, []int{0}, true)
}

// How is held against the story's, even where that is no failure, or no end.
func TestProvesAsTheStoryEnds(t *testing.T) {
	p := program(t, "thread a { skip; skip; }")
	checkProved(t, p, 100, api.Done, -1, schedule("0 0"), true)
	checkProved(t, p, 100, api.Done, 0, schedule("0 0"), false)
	checkProved(t, p, 100, api.Running, -1, schedule("0"), true)
	checkProved(t, p, 100, api.Running, 0, schedule("0"), false)
	checkProved(t, p, 100, api.Running, -1, schedule("0 0"), false)
}

func TestProvesDeadlocks(t *testing.T) {
	p := program(t, "mutex m; mutex n; thread a { lock m; lock n; } thread b { lock n; lock m; }")
	checkProved(t, p, 100, api.Deadlock, -1, schedule("0 1"), true)
	checkProved(t, p, 100, api.Deadlock, -1, schedule("1 0"), true)
	checkProved(t, p, 100, api.Deadlock, 0, schedule("0 1"), false)
	checkProved(t, p, 100, api.Deadlock, -1, schedule("0 0"), true)
	checkProved(t, p, 100, api.Deadlock, -1, schedule("0"), false)
}

// The longest schedule that is proved has 1,024 steps.
func TestProvesTheLongest(t *testing.T) {
	p := program(t, loop)
	checkProved(t, p, 2046, api.Overrun, 0, times(1024, 0), true)
	checkProved(t, p, 2047, api.Overrun, 0, times(1024, 0), true)
	checkProved(t, p, 2048, api.Overrun, 0, times(1024, 0), false)
	checkProved(t, p, 2048, api.Overrun, 0, times(1025, 0), false)
	checkProved(t, p, 2045, api.Overrun, 0, times(1024, 0), false)
	checkProved(t, p, 2045, api.Overrun, 0, times(1023, 0), true)
}
