package sem_test

import (
	"fmt"
	"math"
	"slices"
	"strings"
	"testing"

	"assize/api"
	"assize/sem"
	"assize/tree"
)

// P8.1

func TestWhatIsRefused(t *testing.T) {
	refused := func(p api.Program, work int) {
		t.Helper()
		if r, err := sem.New(p, work); r != nil || err != api.ErrArg {
			t.Errorf("New(%.200s, %d) = %v, %v", fmt.Sprint(p), work, r != nil, err)
		}
	}
	good := program(t, "thread t { skip; }")
	for _, work := range []int{0, -1, 65537, 1 << 40, math.MinInt, math.MaxInt} {
		refused(good, work)
	}
	for _, work := range []int{1, 2, 65535, 65536} {
		if r, err := sem.New(good, work); r == nil || err != api.OK {
			t.Error(work, err)
		}
	}
	refused(api.Program{}, 9)
	for _, s := range []string{
		"shared x int; thread t { x = x + 1; }", "thread t { lock m; }", "thread t { i = 1; }", "thread t { assert 1; }",
		"thread t { } thread t { }", "mutex m; shared m int; thread t { }", "thread t { local i int; i = 1.5; }",
	} {
		refused(program(t, s), 9)
	}
	good.Threads[0].Body[0].Name = "x"
	refused(good, 9)
}

func TestHowARunBegins(t *testing.T) {
	r := start(t, "shared x int = -4; shared y real = -inf; shared z bool = true; mutex m; mutex n; thread t { local a real = nan; local b int; skip; } thread u { skip; }", 5)
	checkShared(t, r, number(-4), float(math.Inf(-1)), truth(true))
	checkEnd(t, r, api.Running, -1)
	checkWork(t, r, 0, 0)
	if got := r.Locals(0); !slices.Equal(got, []api.Value{float(math.NaN()), number(0)}) || len(r.Locals(1)) != 0 {
		t.Error(got, r.Locals(1))
	}
	if !slices.Equal(r.Held(), []int{-1, -1}) || r.Over(0) || r.Over(1) {
		t.Error(r.Held(), r.Over(0), r.Over(1))
	}
}

func TestRunsThatEndAtTheirBeginning(t *testing.T) {
	r := start(t, "mutex m; thread t { } thread u { local i int; }", 1)
	checkEnd(t, r, api.Done, -1)
	checkEnd(t, r.Clone(), api.Done, -1)
	for th := range 2 {
		if _, err := r.Step(th); err != api.ErrState || !r.Over(th) || r.Can(th) {
			t.Error(th, err)
		}
	}
	r = start(t, "thread t { } thread u { skip; }", 1)
	checkEnd(t, r, api.Running, -1)
	if !r.Over(0) || r.Over(1) {
		t.Error(r.Over(0), r.Over(1))
	}
	play(t, r, 1)
	checkEnd(t, r, api.Done, -1)
}

// P8.2: which steps are made

func TestThreadsThatAreNone(t *testing.T) {
	r := start(t, example, 9)
	for _, th := range []int{-1, 2, 16, math.MinInt, math.MaxInt} {
		if e, err := r.Step(th); e != (api.Event{}) || err != api.ErrArg {
			t.Error(th, e, err)
		}
		if e, err := r.Next(th); e != (api.Event{}) || err != api.ErrArg {
			t.Error(th, e, err)
		}
		if r.Can(th) || r.Over(th) || len(r.Locals(th)) != 0 || r.Work(th) != 0 {
			t.Error(th, r.Can(th), r.Over(th), r.Locals(th), r.Work(th))
		}
	}
	// Of a run that has ended, too.
	play(t, r, 0, 0)
	play(t, start(t, "thread t { assert false; }", 9), 0)
	if _, err := r.Step(2); err != api.ErrArg {
		t.Error(err)
	}
}

func TestRunsThatAreNone(t *testing.T) {
	made := start(t, example, 9)
	copied := *made
	for i, r := range []*sem.Run{nil, {}, new(sem.Run), &copied} {
		for _, th := range []int{-1, 0, 1, 99} {
			if e, err := r.Step(th); e != (api.Event{}) || err != api.ErrNil {
				t.Error(i, th, e, err)
			}
			if e, err := r.Next(th); e != (api.Event{}) || err != api.ErrNil {
				t.Error(i, th, e, err)
			}
			if r.Can(th) || r.Over(th) || r.Locals(th) != nil || r.Work(th) != 0 {
				t.Error(i, th, "is something")
			}
		}
		checkEnd(t, r, 0, 0)
		if r.Shared() != nil || r.Held() != nil || r.Clone() != nil {
			t.Error(i, "is something")
		}
	}
	checkEnd(t, made, api.Running, -1)
}

func TestEvents(t *testing.T) {
	r := start(t, `shared a int; shared b real; shared c bool; mutex m; mutex n;
		thread t { skip; } thread u { local i int; local j bool;
		skip; i = 1; i = i + a; j = b < 0.5; a = i; b = real(i); c = !j; lock n; lock m; unlock n; unlock m;
		assert j || c || true; assert j || true; if int(b) > 3 { } while a > 5 { } if j { } while i > 9 { } }`, 99)
	want := [][2]int{
		{api.Local, 0}, {api.Local, 0}, {api.Reads, 0}, {api.Reads, 1}, {api.Writes, 0}, {api.Writes, 1}, {api.Writes, 2},
		{api.Locks, 1}, {api.Locks, 0}, {api.Unlocks, 1}, {api.Unlocks, 0},
		{api.Reads, 2}, {api.Local, 0}, {api.Reads, 1}, {api.Reads, 0}, {api.Local, 0}, {api.Local, 0},
	}
	for i, w := range want {
		checkNext(t, r, 1, w[0], w[1])
		if e, err := r.Step(1); e != (api.Event{Thread: 1, Kind: w[0], Object: w[1]}) || err != api.OK {
			t.Error(i, e, err)
		}
	}
	if e, err := r.Next(1); e != (api.Event{}) || err != api.ErrState {
		t.Error(e, err)
	}
	if e, err := r.Step(1); e != (api.Event{}) || err != api.ErrState || !r.Over(1) {
		t.Error(e, err)
	}
	checkNext(t, r, 0, api.Local, 0)
	play(t, r, 0)
	checkEnd(t, r, api.Done, -1)
}

// A run that has ended tells what would come next, but nothing comes.
func TestNextOfARunThatHasEnded(t *testing.T) {
	r := start(t, "shared x int; mutex m; thread t { assert 1 / 0 == x; } thread u { x = 2; } thread v { lock m; lock m; }", 9)
	play(t, r, 2, 0)
	checkEnd(t, r, api.Trapped, 0)
	checkNext(t, r, 0, api.Reads, 0)
	checkNext(t, r, 1, api.Writes, 0)
	checkNext(t, r, 2, api.Locks, 0)
	for th := range 3 {
		if e, err := r.Step(th); e != (api.Event{}) || err != api.ErrState || r.Can(th) || r.Over(th) {
			t.Error(th, e, err)
		}
	}
	checkEnd(t, r, api.Trapped, 0)
	checkWork(t, r, 3, 0, 1)
}

func TestLocks(t *testing.T) {
	r := start(t, "mutex m; mutex n; thread a { lock m; unlock m; lock m; } thread b { lock n; lock m; unlock m; unlock n; }", 9)
	play(t, r, 0, 1)
	if !slices.Equal(r.Held(), []int{0, 1}) || r.Can(1) || !r.Can(0) {
		t.Error(r.Held(), r.Can(1), r.Can(0))
	}
	if e, err := r.Step(1); e != (api.Event{}) || err != api.ErrState {
		t.Error(e, err)
	}
	checkWork(t, r, 1, 1)
	play(t, r, 0, 1)
	if !slices.Equal(r.Held(), []int{1, 1}) || r.Can(0) || !r.Can(1) {
		t.Error(r.Held(), r.Can(0), r.Can(1))
	}
	play(t, r, 1, 0, 1)
	if !slices.Equal(r.Held(), []int{0, -1}) {
		t.Error(r.Held())
	}
	checkEnd(t, r, api.Done, -1)
}

func TestDeadlocks(t *testing.T) {
	both := "mutex m; mutex n; thread a { lock m; lock n; } thread b { lock n; lock m; } thread c { skip; }"
	r := start(t, both, 9)
	play(t, r, 0, 1)
	checkEnd(t, r, api.Running, -1)
	play(t, r, 2)
	checkEnd(t, r, api.Deadlock, -1)
	for th := range 3 {
		if _, err := r.Step(th); err != api.ErrState || r.Can(th) {
			t.Error(th, err)
		}
	}
	// Its own mutex, too.
	r = start(t, "mutex m; thread a { lock m; lock m; }", 9)
	play(t, r, 0)
	checkEnd(t, r, api.Deadlock, -1)
	checkNext(t, r, 0, api.Locks, 0)
	// Who has ended lets nothing go.
	r = start(t, both, 9)
	play(t, r, 0, 0, 2)
	checkEnd(t, r, api.Deadlock, -1)
	if !r.Over(0) || !slices.Equal(r.Held(), []int{0, 0}) {
		t.Error(r.Over(0), r.Held())
	}
}

func TestUnlocksThatTrap(t *testing.T) {
	for _, c := range []struct {
		body     string
		schedule []int
	}{{"unlock m;", []int{0}}, {"lock m; unlock m; unlock m;", []int{0, 0, 0}}, {"unlock m;", []int{1, 0}}} {
		r := start(t, "mutex m; thread a { "+c.body+" } thread b { lock m; }", 9)
		play(t, r, c.schedule[:len(c.schedule)-1]...)
		held, work := r.Held(), r.Work(0)
		play(t, r, 0)
		checkEnd(t, r, api.Trapped, 0)
		checkWork(t, r, work+1)
		checkNext(t, r, 0, api.Unlocks, 0)
		if !slices.Equal(held, r.Held()) {
			t.Error(held, r.Held())
		}
	}
}

func TestFailures(t *testing.T) {
	r := start(t, "shared x int = 3; thread a { assert x == 3; assert x == 4; skip; } thread b { skip; }", 99)
	play(t, r, 0)
	checkEnd(t, r, api.Running, -1)
	play(t, r, 0)
	checkEnd(t, r, api.Failed, 0)
	checkWork(t, r, 8, 0)
	// The assert is done, and taken off.
	checkNext(t, r, 0, api.Local, 0)
	if r.Can(0) || r.Can(1) || r.Over(0) {
		t.Error(r.Can(0), r.Can(1), r.Over(0))
	}
	// One that is the last of all ends the run so, too.
	r = start(t, "thread a { assert false; }", 2)
	play(t, r, 0)
	checkEnd(t, r, api.Failed, 0)
	checkWork(t, r, 2)
	if !r.Over(0) {
		t.Error("there is something to do")
	}
}

// P8.3: work and its limit

func TestWorkOfEachStatement(t *testing.T) {
	for s, want := range map[string]int{
		"skip;": 1, "lock m;": 1, "i = 1;": 2, "i = -x;": 3, "i = i + 1 * 2;": 6, "assert true;": 2, "assert 1 == x;": 4,
		"if true { skip; }": 2, "if !(1 < x) { skip; } else { }": 5, "while x < 2 { }": 4, "while false { }": 2,
		"i = int(real(i) * 0.5 / 2.0);": 8,
	} {
		for limit := 1; limit < want+3; limit++ {
			r := start(t, "shared x int = 1; mutex m; thread a { local i int; "+s+" }", limit)
			next, _ := r.Next(0)
			if e, err := r.Step(0); e != next || err != api.OK {
				t.Error(s, limit, e, err)
			}
			checkWork(t, r, min(want, limit))
			if how, _ := r.End(); limit < want != (how == api.Overrun) {
				t.Error(s, limit, how)
			}
		}
	}
}

// Nothing else changes at the limit: not even the statement is taken off.
func TestOverruns(t *testing.T) {
	r := start(t, "shared x int; mutex m; thread a { skip; x = 1; } thread b { lock m; unlock m; } thread c { assert false; }", 1)
	c, b := r.Clone(), r.Clone()
	play(t, r, 0)
	checkEnd(t, r, api.Running, -1)
	play(t, r, 0)
	checkEnd(t, r, api.Overrun, 0)
	checkShared(t, r, number(0))
	checkNext(t, r, 0, api.Writes, 0)
	checkWork(t, r, 1, 0, 0)
	play(t, c, 2)
	checkEnd(t, c, api.Overrun, 2)
	checkNext(t, c, 2, api.Local, 0)
	play(t, b, 1, 1)
	checkEnd(t, b, api.Overrun, 1)
	if !slices.Equal(b.Held(), []int{1}) {
		t.Error(b.Held())
	}
	// Not even a Lock goes above it, nor a trap of an Unlock.
	for _, s := range []string{"skip; lock m;", "skip; unlock m;", "skip; skip;"} {
		r := start(t, "mutex m; thread a { "+s+" }", 1)
		play(t, r, 0, 0)
		checkEnd(t, r, api.Overrun, 0)
		checkWork(t, r, 1)
		if !slices.Equal(r.Held(), []int{-1}) || r.Over(0) {
			t.Error(s, r.Held(), r.Over(0))
		}
	}
}

// A trap needs as many as it comes at; what would be behind it does not count.
func TestTrapsAtTheLimit(t *testing.T) {
	const at = 3
	for limit := 1; limit < 9; limit++ {
		r := start(t, "shared x int = 7; thread a { x = 1 / 0 + 2 * 3 - 4; }", limit)
		play(t, r, 0)
		if limit < at {
			checkEnd(t, r, api.Overrun, 0)
			checkWork(t, r, limit)
		} else {
			checkEnd(t, r, api.Trapped, 0)
			checkWork(t, r, at)
		}
		checkShared(t, r, number(7))
		checkNext(t, r, 0, api.Writes, 0)
	}
	// Behind steps that worked, too: 2, 4, 6, 2 and 4.
	for limit, how := range map[int]int{18: api.Overrun, 20: api.Overrun, 21: api.Trapped, 22: api.Trapped} {
		r := start(t, "thread a { local i int = 2; while true { i = i - 1; assert 5 / i > 0; } }", limit)
		play(t, r, 0, 0, 0, 0, 0)
		checkEnd(t, r, api.Running, -1)
		checkWork(t, r, 18)
		play(t, r, 0)
		checkEnd(t, r, how, 0)
		checkWork(t, r, min(limit, 21))
	}
}

// What there is to do: blocks come to the front, and loops come back.
func TestTheOrderOfStatements(t *testing.T) {
	const text = `shared x int; thread a { local i int;
		if i == 0 { if true { x = 1; x = 2; } else { x = 91; } if false { x = 92; } x = 3; } else { x = 93; }
		if false { x = 94; } else { x = 4; if false { } else { x = 5; } }
		while i < 2 { i = i + 1; if i == 2 { x = 7; while x == 7 { x = 8; } } else { x = 6; } }
		while true { if i > 99 { } while i < 0 { x = 95; } x = 9; assert i == -1; } }`
	r := start(t, text, 999)
	var seen []int
	for how := api.Running; how == api.Running; how, _ = r.End() {
		e, err := r.Step(0)
		if err != api.OK {
			t.Fatal(err)
		}
		if e.Kind == api.Writes {
			seen = append(seen, int(r.Shared()[0].Bits))
		}
	}
	if !slices.Equal(seen, []int{1, 2, 3, 4, 5, 6, 7, 8, 9}) {
		t.Error(seen)
	}
	checkEnd(t, r, api.Failed, 0)
}

func TestLoopsWithoutAnEnd(t *testing.T) {
	r := start(t, "thread a { while true { } } thread b { while true { skip; } }", 65536)
	for range 65536 / 2 {
		play(t, r, 0)
	}
	checkEnd(t, r, api.Running, -1)
	checkWork(t, r, 65536, 0)
	for range 65536 / 3 {
		play(t, r, 1, 1)
	}
	checkWork(t, r, 65536, 65535)
	play(t, r, 1)
	checkEnd(t, r, api.Overrun, 1)
	checkWork(t, r, 65536, 65536)
}

// Locals are each thread's own, though they have one name.
func TestLocalsOfOneName(t *testing.T) {
	r := start(t, "shared x int; thread a { local i int = 1; local j int; j = i + 10; x = j; } thread b { local j real = 0.5; local i int = 2; i = i + 1; x = i; }", 99)
	play(t, r, 0, 1, 0)
	checkShared(t, r, number(11))
	play(t, r, 1)
	checkShared(t, r, number(3))
	if !slices.Equal(r.Locals(0), []api.Value{number(1), number(11)}) || !slices.Equal(r.Locals(1), []api.Value{float(0.5), number(3)}) {
		t.Error(r.Locals(0), r.Locals(1))
	}
}

// P8.4

func checkValue(t *testing.T, s string, want api.Value, n int) {
	t.Helper()
	v, got, err := sem.Value(expr(t, s), nil, nil)
	if v != want || got != n || err != api.OK {
		t.Errorf("Value(%s) = %v, %d, %v; not %v, %d", s, v, got, err, want, n)
	}
}

func checkTrap(t *testing.T, s string, n int) {
	t.Helper()
	if v, got, err := sem.Value(expr(t, s), nil, nil); v != (api.Value{}) || got != n || err != api.ErrState {
		t.Errorf("Value(%s) = %v, %d, %v; not a trap at %d", s, v, got, err, n)
	}
}

func TestValues(t *testing.T) {
	const most = "9223372036854775807"
	checkValue(t, most, number(math.MaxInt64), 1)
	checkValue(t, most+" + 1", number(math.MinInt64), 3)
	checkValue(t, "-"+most+" - 2", number(math.MaxInt64), 4)
	checkValue(t, most+" * "+most, number(1), 3)
	checkValue(t, "-(-"+most+" - 1)", number(math.MinInt64), 5)
	checkValue(t, "(-"+most+" - 1) / -1", number(math.MinInt64), 7)
	checkValue(t, "(-"+most+" - 1) % -1", number(0), 7)
	checkValue(t, "-7 / 2", number(-3), 4)
	checkValue(t, "-7 % 2", number(-1), 4)
	checkValue(t, "7 / -2", number(-3), 4)
	checkValue(t, "7 % -2", number(1), 4)
	checkValue(t, "-1 < 0 && !(0 < -1) && 2 <= 2 && 2 >= 2 && !(2 > 2)", truth(true), 23)
	checkValue(t, "true || false", truth(true), 3)
	checkValue(t, "false && true", truth(false), 3)
	checkValue(t, "true == false", truth(false), 3)
	checkValue(t, "true != false", truth(true), 3)
	checkValue(t, "(1 == 1) != (2 == 3)", truth(true), 7)
	checkValue(t, "0.1 + 0.2", api.Value{T: api.Real, Bits: 0x3fd3333333333334}, 3)
	checkValue(t, "1.0 / 0.0", float(math.Inf(1)), 3)
	checkValue(t, "0.0 / 0.0", float(math.NaN()), 3)
	checkValue(t, "-0.0", float(math.Copysign(0, -1)), 2)
	checkValue(t, "-nan", float(math.NaN()), 2)
	checkValue(t, "-0.0 == 0.0", truth(true), 4)
	checkValue(t, "nan == nan", truth(false), 3)
	checkValue(t, "nan != nan", truth(true), 3)
	checkValue(t, "nan < 1.0 || nan <= 1.0 || nan > 1.0 || nan >= 1.0", truth(false), 15)
	checkValue(t, "1.5 <= 1.5 && 1.5 >= 1.5 && 1.0 < 1.5 && 1.5 > 1.0", truth(true), 15)
	checkValue(t, "int(-2.75)", number(-2), 3)
	checkValue(t, "int(real("+most+") - 1024.0)", number(1<<63-1024), 5)
	checkValue(t, "real("+most+")", float(1<<63), 2)
}

func TestTraps(t *testing.T) {
	checkTrap(t, "1 / 0", 3)
	checkTrap(t, "1 % 0", 3)
	checkTrap(t, "0 / 0 + 1 / 0", 3)
	checkTrap(t, "1 + 2 * (3 / (1 - 1))", 7)
	checkTrap(t, "int(nan)", 2)
	checkTrap(t, "int(inf)", 2)
	checkTrap(t, "int(real(9223372036854775807))", 3)
	checkTrap(t, "int(-real(9223372036854775807) * 2.0)", 6)
	checkValue(t, "int(-real(9223372036854775807))", number(math.MinInt64), 4)
	// Both operands are always worked out.
	checkTrap(t, "true || 1 / 0 == 1", 4)
	checkTrap(t, "false && 1 % 0 == 1", 4)
	checkValue(t, "1.0 / 0.0 > 0.0", truth(true), 5)
}

func TestNames(t *testing.T) {
	e := expr(t, "a + b * a")
	ask := func(names []string, values ...api.Value) string {
		v, n, err := sem.Value(e, names, values)
		return fmt.Sprint(v, n, int(err))
	}
	for _, c := range []struct{ got, want string }{
		{ask([]string{"a", "b"}, number(3), number(5)), "{1 18} 5 0"},
		{ask([]string{"b", "a"}, float(0.5), float(2)), fmt.Sprint(float(3), 5, 0)},
		// The first value that stands at a name is its.
		{ask([]string{"a", "b", "a", "b"}, number(3), number(5), truth(true), float(1)), "{1 18} 5 0"},
		{ask([]string{"a", "a", "b"}, truth(true), number(1), number(5)), "{0 0} 0 2"},
		// Names that are none may stand there, too.
		{ask([]string{"", "a", "if", "b", "1", "é"}, truth(true), number(math.MinInt64), number(0), number(-1), number(0), float(0)), "{1 0} 5 0"},
		{ask([]string{"a"}, number(3)), "{0 0} 0 6"},
		{ask(nil), "{0 0} 0 6"},
		{ask([]string{"A", "B", "ab"}, number(3), number(3), number(3)), "{0 0} 0 6"},
		{ask([]string{"a", "b"}, number(3), float(1)), "{0 0} 0 2"},
		{ask([]string{"a", "b"}, truth(true), truth(true)), "{0 0} 0 2"},
		// Wrong numbers and values come ahead of names that are missing, these ahead of types.
		{ask([]string{"a"}), "{0 0} 0 2"},
		{ask([]string{"a"}, number(3), number(4)), "{0 0} 0 2"},
		{ask(nil, number(3)), "{0 0} 0 2"},
		{ask([]string{"a", "x"}, truth(true), number(3)), "{0 0} 0 6"},
		{ask([]string{"a", "x"}, truth(true), api.Value{}), "{0 0} 0 2"},
	} {
		if c.got != c.want {
			t.Errorf("%s; not %s", c.got, c.want)
		}
	}
	if _, _, err := sem.Value(expr(t, "true + 1 + a"), nil, nil); err != api.ErrMissing {
		t.Error(err)
	}
	if _, _, err := sem.Value(expr(t, "a + (1 + true)"), []string{"b"}, []api.Value{number(1)}); err != api.ErrMissing {
		t.Error(err)
	}
}

func TestValuesThatMayNotBe(t *testing.T) {
	e := expr(t, "1")
	for _, v := range []api.Value{{}, {T: 4}, {T: 255, Bits: 1}, {T: api.Bool, Bits: 2}, {T: api.Bool, Bits: 1 << 63}, {T: api.Real, Bits: api.NaN + 1}, {T: api.Real, Bits: 1<<64 - 1}, {T: api.Real, Bits: 0xfff8 << 48}} {
		for _, names := range [][]string{{"a"}, {"1"}} {
			if got, n, err := sem.Value(e, names, []api.Value{v}); got != (api.Value{}) || n != 0 || err != api.ErrArg {
				t.Error(v, got, n, err)
			}
		}
		if _, _, err := sem.Value(e, []string{"a", "b", "a"}, []api.Value{number(0), number(0), v}); err != api.ErrArg {
			t.Error(v, err)
		}
	}
	for _, v := range []api.Value{number(math.MinInt64), number(-1), truth(true), truth(false), float(math.NaN()), float(math.Inf(-1)), float(0.3333333333333333), {T: api.Real, Bits: 1}} {
		if got, n, err := sem.Value(api.Expr{Op: api.Name, Name: "a"}, []string{"a"}, []api.Value{v}); got != v || n != 1 || err != api.OK {
			t.Error(v, got, n, err)
		}
	}
}

func TestExpressionsThatMayNotBe(t *testing.T) {
	one := api.Expr{Op: api.Lit, Lit: number(1)}
	high := one
	for range 31 {
		high = api.Expr{Op: api.Neg, Kids: []api.Expr{high}}
	}
	if v, n, err := sem.Value(high, nil, nil); v != number(-1) || n != 32 || err != api.OK {
		t.Error(v, n, err)
	}
	for i, e := range []api.Expr{
		{}, {Op: api.Lit}, {Op: api.Lit, Lit: number(-1)}, {Op: api.Lit, Lit: float(-1)}, {Op: api.Lit, Lit: float(0.3333333333333333)},
		{Op: api.Name}, {Op: api.Name, Name: "if"}, {Op: api.Name, Name: strings.Repeat("a", 25)}, {Op: api.Add, Kids: []api.Expr{one}},
		{Op: api.Neg, Kids: []api.Expr{one, one}}, {Op: api.Neg}, {Op: 20, Kids: []api.Expr{one, one}}, {Op: api.Load}, {Op: api.Fetch, Kids: []api.Expr{one}},
		{Op: api.Lit, Lit: number(1), Name: "a"}, {Op: api.Name, Name: "a", Lit: number(1)}, {Op: api.Lit, Lit: number(1), Kids: []api.Expr{one}},
		{Op: api.Neg, Kids: []api.Expr{high}}, {Op: api.Add, Kids: []api.Expr{{Op: api.Name, Name: "zz"}, {}}},
	} {
		names := []string{"", "a", "if", strings.Repeat("a", 25)}
		if v, n, err := sem.Value(e, names, []api.Value{number(1), number(1), number(1), number(1)}); v != (api.Value{}) || n != 0 || err != api.ErrArg {
			t.Error(i, v, n, err)
		}
	}
	for _, s := range []string{"1 + 1.5", "!1", "-true", "true < false", "1.5 % 2.0", "int(1)", "real(1.5)", "int(true)", "1 / 0 + 1.5", "1 && true", "1 == true", "!(1 / 0)"} {
		if v, n, err := sem.Value(expr(t, s), nil, nil); v != (api.Value{}) || n != 0 || err != api.ErrArg {
			t.Error(s, v, n, err)
		}
	}
}

// There may be more names than any program has variables.
func TestManyNames(t *testing.T) {
	var names []string
	var values []api.Value
	level := []api.Expr{}
	for i := range 4096 {
		names = append(names, fmt.Sprint("n", i))
		values = append(values, number(int64(i)))
		level = append(level, api.Expr{Op: api.Name, Name: names[i]})
	}
	for len(level) > 1 {
		var above []api.Expr
		for i := 0; i < len(level); i += 2 {
			above = append(above, api.Expr{Op: api.Add, Kids: level[i : i+2]})
		}
		level = above
	}
	if v, n, err := sem.Value(level[0], names, values); v != number(4095*4096/2) || n != 8191 || err != api.OK {
		t.Error(v, n, err)
	}
	// An expression may be greater than any statement's.
	twice := api.Expr{Op: api.Sub, Kids: []api.Expr{level[0], level[0]}}
	if v, n, err := sem.Value(twice, names, values); v != number(0) || n != 2*8191+1 || err != api.OK {
		t.Error(v, n, err)
	}
	values[4095] = float(1)
	if _, _, err := sem.Value(level[0], names, values); err != api.ErrArg {
		t.Error(err)
	}
}

// Rule 4

func TestAnswersAreNewMemory(t *testing.T) {
	p := program(t, "shared x int = 1; mutex m; thread a { local i int; i = x; lock m; if i == 1 { x = i + 4; } else { x = 9; } }")
	kept := tree.Copy(p)
	r, _ := sem.New(p, 99)
	play(t, r, 0)
	if !tree.Same(p, kept) {
		t.Error("the program was changed")
	}
	// What is done to a program, or to an answer, later on is nothing to a run.
	p.Shared[0].Name, p.Mutexes[0], p.Threads[0].Locals[0].Name = "q", "q", "q"
	b := p.Threads[0].Body
	b[0].E.Name, b[1].Kind, b[2].E.Kids[0].Name, b[2].Body[0].Name, b[2].Else = "q", api.Skip, "q", "q", nil
	b[2].Body[0].E.Kids[1].Lit = number(77)
	r.Shared()[0], r.Held()[0], r.Locals(0)[0] = number(50), 7, number(50)
	play(t, r, 0, 0, 0)
	checkShared(t, r, number(5))
	checkEnd(t, r, api.Done, -1)
	if !slices.Equal(r.Held(), []int{0}) || !slices.Equal(r.Locals(0), []api.Value{number(1)}) {
		t.Error(r.Held(), r.Locals(0))
	}
	for i := range 2 {
		list := r.Shared()
		if list = append(list, number(int64(i))); len(list) != 2 || list[0] != number(5) {
			t.Error(list)
		}
	}
}

func TestNothingHandedInIsChanged(t *testing.T) {
	e := expr(t, "a + -b * 2")
	kept := expr(t, "a + -b * 2")
	names, values := []string{"a", "b", "rest"}, []api.Value{number(1), number(2), {}}
	for range 2 {
		if v, n, err := sem.Value(e, names[:2], values[:2]); v != number(-3) || n != 6 || err != api.OK {
			t.Error(v, n, err)
		}
	}
	same := tree.Same(api.Program{Threads: []api.Thread{{Body: []api.Stmt{{E: e}}}}}, api.Program{Threads: []api.Thread{{Body: []api.Stmt{{E: kept}}}}})
	if !same || !slices.Equal(names, []string{"a", "b", "rest"}) || !slices.Equal(values, []api.Value{number(1), number(2), {}}) {
		t.Error(e, names, values)
	}
}
