package vm_test

import (
	"bytes"
	"fmt"
	"math"
	"runtime"
	"slices"
	"testing"
	"unsafe"

	"assize/api"
	"assize/code"
	"assize/sem"
	"assize/vm"
)

// times tells as many of something.
func times[T any](n int, x T) []T { return slices.Repeat([]T{x}, n) }

// P11.1

func TestWhatIsRefused(t *testing.T) {
	refused := func(c api.Code, work int) {
		t.Helper()
		if m, err := vm.New(c, work); m != nil || err != api.ErrArg {
			t.Errorf("New(%.200s, %d) = %v, %v", fmt.Sprint(c), work, m != nil, err)
		}
	}
	good := compiled(t, example)
	for _, work := range []int{0, -1, 65537, 1 << 40, math.MinInt, math.MaxInt} {
		refused(good, work)
	}
	for _, work := range []int{1, 2, 65535, 65536} {
		machine(t, good, work)
	}
	pass := node(api.Pass, 0, 1, 0)
	for want, list := range map[api.Errno][]api.Code{
		api.ErrLong: {
			{}, {Bodies: times(17, api.Body{})}, {Shared: times(33, number(0)), Bodies: []api.Body{{}}},
			{Bodies: []api.Body{{Locals: times(17, number(0))}}}, {Bodies: []api.Body{body(0, times(1025, pass)...)}},
			one(truth(0), 1, node(api.SetLocal, 0, 1, 0, append(times(8192, op(api.Not)), lit(truth(0)))...)),
		},
		api.ErrArg: {
			{Mutexes: 17, Bodies: []api.Body{{}}}, {Mutexes: -1, Bodies: []api.Body{{}}}, {Bodies: []api.Body{{Stack: 65}}},
			one(api.Value{}, 0), one(bits(api.NaN+1), 0), one(number(0), 0, node(api.Take, 0, 1, 0)), one(number(0), 0, node(api.Pass, 0, 2, 0)),
			one(number(0), 1, node(api.SetLocal, 0, 1, 0, fetch(0))), one(number(0), 1, node(0, 0, 1, 0)),
		},
		api.ErrType: {
			one(number(0), 1, node(api.SetLocal, 0, 1, 0, lit(truth(1)))), one(number(0), 0, node(api.SetLocal, 0, 1, 0, load(0))),
			one(number(0), 9, node(api.SetLocal, 0, 1, 0, op(api.Neg))), one(number(0), 9, node(api.Pass, 0, 1, 0, lit(number(1)))),
		},
		code.ErrTouch: {
			{Shared: []api.Value{number(0)}, Bodies: []api.Body{body(1, node(api.SetShared, 0, 1, 0, fetch(0)))}},
		},
	} {
		for i, c := range list {
			if err := code.Check(c); err != want {
				t.Error(want, i, err)
			}
			refused(c, 9)
		}
	}
	refused(api.Code{}, 0)
}

func TestHowAMachineBegins(t *testing.T) {
	m := start(t, "shared x int = -4; shared y real = -inf; shared z bool = true; mutex m; mutex n; thread t { local a real = nan; local b int; skip; } thread u { skip; }", 5)
	checkShared(t, m, number(-4), bits(0xfff<<52), truth(1))
	checkHeld(t, m, -1, -1)
	checkEnd(t, m, api.Running, -1)
	checkBusy(t, m, -1)
	checkLocals(t, m, 0, bits(api.NaN), number(0))
	checkLocals(t, m, 1)
	for th := range 2 {
		checkThread(t, m, th, 0, 0)
		checkNext(t, m, th, api.Local, 0)
		if m.Over(th) || !m.Can(th) {
			t.Error(th, m.Over(th), m.Can(th))
		}
	}
	for n := 1; n <= 16; n++ {
		if m := machine(t, api.Code{Bodies: times(n, body(0, node(api.Pass, 0, 0, 0)))}, 1); m.Threads() != n || !m.Can(n-1) || m.Can(n) {
			t.Error(n, m.Threads())
		}
	}
}

func TestMachinesThatEndAtTheirBeginning(t *testing.T) {
	m := machine(t, api.Code{Mutexes: 3, Bodies: times(2, body(9))}, 1)
	checkEnd(t, m, api.Done, -1)
	checkEnd(t, m.Clone(), api.Done, -1)
	for th := range 2 {
		checkRefused(t, m, th, 0, api.ErrState)
		checkRefused(t, m, th, 1, api.ErrState)
		checkThread(t, m, th, 0, 0)
		if _, err := m.Next(th); err != api.ErrState || !m.Over(th) || m.Can(th) {
			t.Error(th, err)
		}
	}
	// One that has something to do keeps it going.
	m = machine(t, api.Code{Bodies: []api.Body{body(0), body(0, node(api.Pass, 0, 1, 0))}}, 1)
	checkEnd(t, m, api.Running, -1)
	if !m.Over(0) || m.Over(1) {
		t.Error(m.Over(0), m.Over(1))
	}
	checkStep(t, m, 1, api.Local, 0, 1)
	checkEnd(t, m, api.Done, -1)
}

// P11.2 and P11.3: what is refused, and told of none

func TestThreadsThatAreNone(t *testing.T) {
	check := func(m *vm.Machine) {
		t.Helper()
		before := m.State()
		for _, th := range []int{-1, 2, 16, math.MinInt, math.MaxInt} {
			for _, n := range []int{-1, 0, 1, math.MaxInt, math.MinInt} {
				checkRefused(t, m, th, n, api.ErrArg)
			}
			if e, err := m.Next(th); e != (api.Event{}) || err != api.ErrArg {
				t.Error(th, e, err)
			}
			checkThread(t, m, th, 0, 0)
			if m.Can(th) || m.Over(th) || len(m.Locals(th)) != 0 {
				t.Error(th, m.Can(th), m.Over(th), m.Locals(th))
			}
		}
		for th := range 2 {
			checkRefused(t, m, th, -1, api.ErrArg)
			checkRefused(t, m, th, math.MinInt, api.ErrArg)
		}
		if !bytes.Equal(before, m.State()) {
			t.Error("the state was changed")
		}
	}
	m := start(t, example, 99)
	check(m)
	checkRun(t, m, 0, 2, 2, false)
	check(m)
	// Of a machine that has ended, too: its errors come ahead.
	play(t, m, 0, 0)
	checkEnd(t, m, api.Deadlock, -1)
	check(m)
}

func TestMachinesThatAreNone(t *testing.T) {
	made := start(t, example, 9)
	play(t, made, 1)
	checkRun(t, made, 1, 1, 1, false)
	copied := *made
	for i, m := range []*vm.Machine{nil, {}, new(vm.Machine), &copied} {
		for _, th := range []int{-1, 0, 1, 99} {
			for _, n := range []int{-1, 0, 1} {
				checkRefused(t, m, th, n, api.ErrNil)
			}
			if e, err := m.Next(th); e != (api.Event{}) || err != api.ErrNil {
				t.Error(i, th, e, err)
			}
			checkThread(t, m, th, 0, 0)
			if m.Can(th) || m.Over(th) || m.Locals(th) != nil {
				t.Error(i, th, "is something")
			}
		}
		checkEnd(t, m, 0, 0)
		if m.Busy() != 0 || m.Threads() != 0 || m.Shared() != nil || m.Held() != nil || m.State() != nil || m.Clone() != nil {
			t.Error(i, "is something")
		}
	}
	checkBusy(t, made, 1)
}

// P11.2: steps in pieces

func TestPieceByPiece(t *testing.T) {
	m := start(t, "shared x int = 5; shared y int; thread a { local i int; i = x * 2 + -3; y = i; } thread b { skip; }", 99)
	checkRun(t, m, 0, 0, 0, false)
	checkBusy(t, m, -1)
	if !m.Can(1) {
		t.Error("a step of which nothing is done is not begun")
	}
	// fetch, lit, mul, lit, neg, add, and the last one
	for k := 1; k <= 6; k++ {
		checkRun(t, m, 0, 1, 1, false)
		checkBusy(t, m, 0)
		checkThread(t, m, 0, 0, k)
		checkNext(t, m, 0, api.Reads, 0)
		checkNext(t, m, 1, api.Local, 0)
		checkLocals(t, m, 0, number(0))
		checkRun(t, m, 0, 0, 0, false)
		before := m.State()
		checkRefused(t, m, 1, 0, api.ErrState)
		checkRefused(t, m, 1, 1, api.ErrState)
		if !bytes.Equal(before, m.State()) {
			t.Error("the state was changed")
		}
	}
	checkRun(t, m, 0, 1, 1, true)
	checkBusy(t, m, -1)
	checkThread(t, m, 0, 1, 7)
	checkLocals(t, m, 0, number(7))
	// What is left of a step: all of it, or what was not yet done.
	checkRun(t, m, 0, 1, 1, false)
	checkStep(t, m, 0, api.Writes, 1, 1)
	checkShared(t, m, number(5), number(7))
	checkRun(t, m, 1, 1, 1, true)
	checkEnd(t, m, api.Done, -1)
	for k := range 8 {
		m := start(t, "shared x int = 5; thread a { local i int; i = x * 2 + -3; }", 99)
		checkRun(t, m, 0, k, k, k == 7)
		if k < 7 {
			checkStep(t, m, 0, api.Reads, 0, 7-k)
		}
		checkEnd(t, m, api.Done, -1)
	}
	m = start(t, "shared x int = 5; thread a { local i int; i = x; skip; }", 99)
	checkRun(t, m, 0, math.MaxInt, 2, true)
	checkEnd(t, m, api.Running, -1)
}

func TestEvents(t *testing.T) {
	m := start(t, `shared a int; shared b real; shared c bool; mutex m; mutex n;
		thread t { skip; } thread u { local i int; local j bool;
		skip; i = 1; i = i + a; j = b < 0.5; a = i; b = real(i); c = !j; lock n; lock m; unlock n; unlock m;
		assert j || c || true; assert j || true; if int(b) > 3 { } while a > 5 { } if j { } while i > 9 { } }`, 99)
	want := [][3]int{
		{api.Local, 0, 1}, {api.Local, 0, 2}, {api.Reads, 0, 4}, {api.Reads, 1, 4}, {api.Writes, 0, 2}, {api.Writes, 1, 3}, {api.Writes, 2, 3},
		{api.Locks, 1, 1}, {api.Locks, 0, 1}, {api.Unlocks, 1, 1}, {api.Unlocks, 0, 1},
		{api.Reads, 2, 6}, {api.Local, 0, 4}, {api.Reads, 1, 5}, {api.Reads, 0, 4}, {api.Local, 0, 2}, {api.Local, 0, 4},
	}
	for _, w := range want {
		checkNext(t, m, 1, w[0], w[1])
		checkStep(t, m, 1, w[0], w[1], w[2])
	}
	checkRefused(t, m, 1, 1, api.ErrState)
	if e, err := m.Next(1); e != (api.Event{}) || err != api.ErrState || !m.Over(1) {
		t.Error(e, err)
	}
	checkThread(t, m, 1, 17, 48)
	checkNext(t, m, 0, api.Local, 0)
	play(t, m, 0)
	checkEnd(t, m, api.Done, -1)
}

// A machine that has ended tells what would come next, but nothing comes.
func TestNextOfAMachineThatHasEnded(t *testing.T) {
	m := start(t, "shared x int; mutex m; thread t { assert 1 / 0 == x; } thread u { x = 2; } thread v { lock m; lock m; }", 9)
	play(t, m, 2, 0)
	checkEnd(t, m, api.Trapped, 0)
	checkNext(t, m, 0, api.Reads, 0)
	checkNext(t, m, 1, api.Writes, 0)
	checkNext(t, m, 2, api.Locks, 0)
	before := m.State()
	for th := range 3 {
		checkRefused(t, m, th, 0, api.ErrState)
		checkRefused(t, m, th, 5, api.ErrState)
		if m.Can(th) || m.Over(th) {
			t.Error(th, m.Can(th), m.Over(th))
		}
	}
	if !bytes.Equal(before, m.State()) {
		t.Error("the state was changed")
	}
}

// Codes that are of no program: nodes go on wherever they say.
func TestWhereNodesGoOn(t *testing.T) {
	m := machine(t, api.Code{Bodies: []api.Body{body(1,
		node(api.Pass, 0, 3, 0),
		node(api.Branch, 0, 2, 4, lit(truth(0))),
		node(api.Pass, 0, 5, 0),
		node(api.Branch, 0, 1, 0, lit(truth(1))),
		node(api.Demand, 0, 2, 0, lit(truth(1))),
	)}}, 99)
	work := 0
	for i, place := range []int{0, 3, 1, 4, 2} {
		checkThread(t, m, 0, place, work)
		play(t, m, 0)
		work += []int{1, 2, 2, 2, 1}[i]
	}
	checkThread(t, m, 0, 5, work)
	checkEnd(t, m, api.Done, -1)
	self := machine(t, api.Code{Bodies: []api.Body{body(0, node(api.Pass, 0, 0, 0))}}, 65536)
	for range 65536 {
		checkRun(t, self, 0, 2, 1, true)
	}
	checkEnd(t, self, api.Running, -1)
	checkStep(t, self, 0, api.Local, 0, 0)
	checkEnd(t, self, api.Overrun, 0)
	checkThread(t, self, 0, 0, 65536)
}

// Mutexes

func TestMutexes(t *testing.T) {
	m := start(t, "mutex m; mutex n; thread a { lock m; unlock m; lock m; } thread b { lock n; lock m; unlock m; unlock n; }", 9)
	play(t, m, 0, 1)
	checkHeld(t, m, 0, 1)
	if m.Can(1) || !m.Can(0) {
		t.Error(m.Can(1), m.Can(0))
	}
	checkRefused(t, m, 1, 0, api.ErrState)
	checkRefused(t, m, 1, 1, api.ErrState)
	checkThread(t, m, 1, 1, 1)
	play(t, m, 0, 1)
	checkHeld(t, m, 1, 1)
	if m.Can(0) || !m.Can(1) {
		t.Error(m.Can(0), m.Can(1))
	}
	play(t, m, 1, 0, 1)
	checkHeld(t, m, 0, -1)
	checkEnd(t, m, api.Done, -1)
}

func TestDeadlocks(t *testing.T) {
	both := "mutex m; mutex n; thread a { lock m; lock n; } thread b { lock n; lock m; } thread c { assert true; }"
	m := start(t, both, 9)
	play(t, m, 0, 1)
	checkEnd(t, m, api.Running, -1)
	// Who is in the midst of a step is no deadlock; when it is over, it is one.
	checkRun(t, m, 2, 1, 1, false)
	checkEnd(t, m, api.Running, -1)
	checkRun(t, m, 2, 9, 1, true)
	checkEnd(t, m, api.Deadlock, -1)
	for th := range 3 {
		checkRefused(t, m, th, 1, api.ErrState)
		if m.Can(th) {
			t.Error(th)
		}
	}
	// Its own mutex, too.
	m = start(t, "mutex m; thread a { lock m; lock m; }", 9)
	checkRun(t, m, 0, 9, 1, true)
	checkEnd(t, m, api.Deadlock, -1)
	checkNext(t, m, 0, api.Locks, 0)
	// Who has ended lets nothing go.
	m = start(t, both, 9)
	play(t, m, 0, 0, 2)
	checkEnd(t, m, api.Deadlock, -1)
	checkHeld(t, m, 0, 0)
	if !m.Over(0) || m.Over(1) {
		t.Error(m.Over(0), m.Over(1))
	}
	// An end that was told is not told otherwise: the others could not go on either.
	m = start(t, "mutex m; thread a { lock m; assert false; } thread b { lock m; }", 9)
	play(t, m, 0, 0)
	checkEnd(t, m, api.Failed, 0)
}

// Ends

// checkTail fails if a machine's state is other than the bytes of another one's, but for how it ended, and by whom.
func checkTail(t *testing.T, m *vm.Machine, before []byte, how, who int) {
	t.Helper()
	want := append(slices.Clone(before[:len(before)-2]), byte(how), byte(who+1))
	if !bytes.Equal(m.State(), want) {
		t.Errorf("%v; not %v", m.State(), want)
	}
}

// Ahead of an instruction for which there is no work left nothing changes but the end.
func TestOverruns(t *testing.T) {
	const text = "shared x int = 1; thread a { skip; x = 7 / 2 + 1; } thread b { skip; }"
	for limit := 2; limit < 7; limit++ {
		m := start(t, text, limit)
		play(t, m, 0)
		left := limit - 1
		checkRun(t, m, 0, left, left, false)
		checkBusy(t, m, 0)
		checkThread(t, m, 0, 1, limit)
		checkRun(t, m, 0, 0, 0, false)
		checkEnd(t, m, api.Running, -1)
		before, other := m.State(), m.Clone()
		checkRun(t, m, 0, 1, 0, true)
		checkStep(t, other, 0, api.Writes, 0, 0)
		for _, m := range []*vm.Machine{m, other} {
			checkEnd(t, m, api.Overrun, 0)
			checkTail(t, m, before, api.Overrun, 0)
			checkBusy(t, m, -1)
			checkThread(t, m, 0, 1, limit)
			checkShared(t, m, number(1))
			checkNext(t, m, 0, api.Writes, 0)
			checkRefused(t, m, 0, 1, api.ErrState)
			checkRefused(t, m, 1, 1, api.ErrState)
		}
		at := start(t, text, limit)
		play(t, at, 0)
		checkRun(t, at, 0, 99, left, true)
		checkTail(t, at, before, api.Overrun, 0)
	}
	// With just as much as it needs it does not.
	m := start(t, text, 7)
	play(t, m, 0, 0, 1)
	checkEnd(t, m, api.Done, -1)
	checkThread(t, m, 0, 2, 7)
}

// A thread whose work is at the limit may go on, if only to end the machine; a mutex that it would take stays as it is.
func TestOverrunsOfSteps(t *testing.T) {
	for _, s := range []string{"skip;", "lock m;", "x = 1;", "assert false;", "unlock n;", "if true { }", "assert 1 / 0 == 1;"} {
		m := start(t, "shared x int; mutex m; mutex n; thread a { skip; "+s+" } thread b { lock n; }", 1)
		play(t, m, 0, 1)
		before := m.State()
		checkRun(t, m, 0, 0, 0, false)
		checkEnd(t, m, api.Running, -1)
		if !m.Can(0) {
			t.Error(s)
		}
		event, _ := m.Next(0)
		checkStep(t, m, 0, event.Kind, event.Object, 0)
		checkTail(t, m, before, api.Overrun, 0)
		checkBusy(t, m, -1)
	}
}

// A trap is an instruction that is done: at its limit it traps, below it is overrun.
func TestTrapsAtTheLimit(t *testing.T) {
	const at = 3
	for limit := 1; limit < 9; limit++ {
		m := start(t, "shared x int = 7; thread a { x = 1 / 0 + 2 * 3 - 4; }", limit)
		checkRun(t, m, 0, 99, min(limit, at), true)
		if limit < at {
			checkEnd(t, m, api.Overrun, 0)
		} else {
			checkEnd(t, m, api.Trapped, 0)
		}
		checkThread(t, m, 0, 0, min(limit, at))
		checkShared(t, m, number(7))
	}
}

// unstepped tells a state's bytes with how it ended, and the work of the first of two threads, whose places, without locals, come last.
func unstepped(state []byte, work, how int) []byte {
	s := slices.Clone(state)
	first := len(s) - 2 - 2*9
	s[first+5] = byte(work)
	s[len(s)-2], s[len(s)-1] = byte(how), 1
	return s
}

// At a trap all is as it was ahead of the step, but for the work; the stack is empty.
func TestTraps(t *testing.T) {
	for s, at := range map[string]int{
		"x = 1 + 2 * (3 / (1 - 1));": 7, "x = 5 % 0;": 3, "assert int(nan) == 1;": 2, "if 1 + int(y) == 2 { skip; }": 3, "x = int(-inf);": 3,
		"while int(real(9223372036854775807)) == 1 { }": 3, "unlock m;": 1, "unlock n;": 1,
	} {
		m := start(t, "shared x int = 7; shared y real = inf; mutex m; mutex n; thread a { "+s+" } thread b { lock n; }", 99)
		play(t, m, 1)
		before := m.State()
		event, _ := m.Next(0)
		pieces := m.Clone()
		checkStep(t, m, 0, event.Kind, event.Object, at)
		for range at - 1 {
			checkRun(t, pieces, 0, 1, 1, false)
		}
		checkRun(t, pieces, 0, 1, 1, true)
		for _, m := range []*vm.Machine{m, pieces} {
			checkEnd(t, m, api.Trapped, 0)
			checkBusy(t, m, -1)
			checkThread(t, m, 0, 0, at)
			checkHeld(t, m, -1, 1)
			if want := unstepped(before, at, api.Trapped); !bytes.Equal(m.State(), want) {
				t.Errorf("%s: %v; not %v", s, m.State(), want)
			}
			if m.Over(0) || m.Can(0) || m.Can(1) {
				t.Error(s)
			}
		}
	}
}

// At a failure the place is Next, and all else as it was.
func TestFailures(t *testing.T) {
	m := start(t, "shared x int = 3; thread a { assert x == 3; assert x == 4; skip; } thread b { skip; }", 99)
	play(t, m, 0)
	checkEnd(t, m, api.Running, -1)
	checkRun(t, m, 0, 3, 3, false)
	checkRun(t, m, 0, 9, 1, true)
	checkEnd(t, m, api.Failed, 0)
	checkThread(t, m, 0, 2, 8)
	checkBusy(t, m, -1)
	checkNext(t, m, 0, api.Local, 0)
	if m.Can(0) || m.Can(1) || m.Over(0) {
		t.Error(m.Can(0), m.Can(1), m.Over(0))
	}
	want := []byte{1, 0, 0, 0, 0, 0, 0, 0, 3, 0, 2, 0, 0, 0, 8, 0, 0, 0, 0, 0, 0, 0, 0, 0, 0, 0, 0, 2, 1}
	if !bytes.Equal(m.State(), want) {
		t.Error(m.State())
	}
	// One that is the last of all ends the machine so, too.
	m = start(t, "thread a { assert false; }", 2)
	checkStep(t, m, 0, api.Local, 0, 2)
	checkEnd(t, m, api.Failed, 0)
	checkThread(t, m, 0, 1, 2)
	if !m.Over(0) {
		t.Error("there is something to do")
	}
	// One that goes on at itself.
	m = machine(t, one(truth(0), 1, node(api.Demand, 0, 0, 0, load(0)), node(api.Pass, 0, 0, 0)), 9)
	play(t, m, 0)
	checkEnd(t, m, api.Failed, 0)
	checkThread(t, m, 0, 0, 2)
	checkNext(t, m, 0, api.Local, 0)
}

// Values

// made tells what an operator makes of operands on a machine.
func made(t *testing.T, o api.Op, first api.Value, operands ...api.Value) (v api.Value, work int, how int) {
	t.Helper()
	var instrs []api.Instr
	for _, v := range operands {
		instrs = append(instrs, lit(v))
	}
	m := machine(t, one(first, len(operands), node(api.SetLocal, 0, 1, 0, append(instrs, op(o))...)), 99)
	play(t, m, 0)
	how, _ = m.End()
	return m.Locals(0)[0], m.Work(0), how
}

func TestValues(t *testing.T) {
	const most, least = math.MaxInt64, math.MinInt64
	half, inf, minus := uint64(0x3fe<<52), uint64(0x7ff<<52), uint64(1<<63)
	for _, c := range []struct {
		o        api.Op
		operands []api.Value
		want     api.Value
	}{
		{api.Add, []api.Value{number(most), number(1)}, number(least)},
		{api.Sub, []api.Value{number(3), number(5)}, number(-2)},
		{api.Mul, []api.Value{number(most), number(most)}, number(1)},
		{api.Div, []api.Value{number(least), number(-1)}, number(least)},
		{api.Mod, []api.Value{number(least), number(-1)}, number(0)},
		{api.Div, []api.Value{number(-7), number(2)}, number(-3)},
		{api.Mod, []api.Value{number(-7), number(2)}, number(-1)},
		{api.Mod, []api.Value{number(7), number(-2)}, number(1)},
		{api.Neg, []api.Value{number(least)}, number(least)},
		{api.Lt, []api.Value{number(-1), number(0)}, truth(1)},
		{api.Gt, []api.Value{number(-1), number(0)}, truth(0)},
		{api.Le, []api.Value{number(2), number(2)}, truth(1)},
		{api.Ge, []api.Value{number(1), number(2)}, truth(0)},
		{api.Or, []api.Value{truth(0), truth(1)}, truth(1)},
		{api.And, []api.Value{truth(0), truth(1)}, truth(0)},
		{api.Not, []api.Value{truth(0)}, truth(1)},
		{api.Eq, []api.Value{truth(0), truth(0)}, truth(1)},
		{api.Ne, []api.Value{truth(1), truth(0)}, truth(1)},
		{api.Sub, []api.Value{bits(half), bits(inf)}, bits(inf | minus)},
		{api.Div, []api.Value{bits(half), bits(0)}, bits(inf)},
		{api.Div, []api.Value{bits(0), bits(0)}, bits(api.NaN)},
		{api.Add, []api.Value{bits(0x3fb999999999999a), bits(0x3fc999999999999a)}, bits(0x3fd3333333333334)},
		{api.Neg, []api.Value{bits(api.NaN)}, bits(api.NaN)},
		{api.Neg, []api.Value{bits(0)}, bits(minus)},
		{api.Eq, []api.Value{bits(0), bits(minus)}, truth(1)},
		{api.Eq, []api.Value{bits(api.NaN), bits(api.NaN)}, truth(0)},
		{api.Ne, []api.Value{bits(api.NaN), bits(api.NaN)}, truth(1)},
		{api.Le, []api.Value{bits(api.NaN), bits(inf)}, truth(0)},
		{api.Ge, []api.Value{bits(api.NaN), bits(inf)}, truth(0)},
		{api.Ge, []api.Value{bits(minus), bits(0)}, truth(1)},
		{api.ToInt, []api.Value{bits(0xbff8 << 48)}, number(-1)},
		{api.ToInt, []api.Value{bits(0xc3e << 52)}, number(least)},
		{api.ToReal, []api.Value{number(most)}, bits(0x43e << 52)},
	} {
		first := api.Value{T: c.want.T, Bits: 1 - c.want.Bits&1}
		if v, work, how := made(t, c.o, first, c.operands...); v != c.want || work != len(c.operands)+2 || how != api.Done {
			t.Errorf("%d of %v: %v, %d, %d; not %v", c.o, c.operands, v, work, how, c.want)
		}
	}
}

// Each operator at values of all kinds, beside sem's.
func TestEachOperator(t *testing.T) {
	ints := []int64{0, 1, -1, 2, -2, 3, 7, -7, 1 << 32, -1 << 32, 1<<53 + 1, 1<<63 - 1, -1 << 63, -1<<63 + 1}
	reals := []uint64{0, 1, 1 << 63, 1<<63 + 1, 0x3fe << 52, 0x3ff << 52, 0xbff << 52, 0x43e << 52, 0xc3e << 52, 0xc3e<<52 + 1, 0x43dfffffffffffff, 0x7fefffffffffffff, 0x7ff << 52, 0xfff << 52, api.NaN, 0x3fb999999999999a}
	kinds := [][]api.Value{nil, {truth(0), truth(1)}, nil}
	for _, n := range ints {
		kinds[0] = append(kinds[0], number(n))
	}
	for _, b := range reals {
		kinds[2] = append(kinds[2], bits(b))
	}
	names := []string{"a", "b"}
	both := []api.Expr{{Op: api.Name, Name: "a"}, {Op: api.Name, Name: "b"}}
	fine := 0
	for _, values := range kinds {
		for i := range len(values) * len(values) {
			list := []api.Value{values[i/len(values)], values[i%len(values)]}
			for o := api.Or; o <= api.ToReal; o++ {
				operands := 2
				if o >= api.Neg {
					operands = 1
				}
				want, n, err := sem.Value(api.Expr{Op: o, Kids: both[:operands]}, names, list)
				if err == api.ErrArg {
					continue
				}
				fine++
				how, first := api.Done, api.Value{T: want.T, Bits: 1 - want.Bits&1}
				if err == api.ErrState {
					how, first = api.Trapped, number(77)
					want, n = first, n-1
				}
				if v, work, h := made(t, o, first, list[:operands]...); v != want || work != n+1 || h != how {
					t.Errorf("%d of %v: %v, %d, %d; not %v, %d, %d", o, list, v, work, h, want, n+1, how)
				}
			}
		}
	}
	if want := len(ints)*len(ints)*13 + 4*5 + len(reals)*len(reals)*12; fine != want {
		t.Error(fine, want)
	}
}

// P11.3: the state

func TestStates(t *testing.T) {
	check := func(m *vm.Machine, want ...byte) {
		t.Helper()
		if got := m.State(); !bytes.Equal(got, want) {
			t.Errorf("State() = %v; not %v", got, want)
		}
	}
	check(machine(t, api.Code{Bodies: []api.Body{{}}}, 1), 0, 0, 0, 0, 0, 0, 0, 0, 0, 1, 0)
	m := start(t, "shared x bool = true; shared y real = -0.5; mutex m; mutex n; thread a { skip; } thread b { local i int = -2; lock n; i = 258 + i; unlock m; }", 99)
	shared := []byte{2, 0, 0, 0, 0, 0, 0, 0, 1, 3, 0xbf, 0xe0, 0, 0, 0, 0, 0, 0}
	idle := []byte{0, 0, 0, 0, 0, 0, 0, 0, 0}
	small := []byte{1, 255, 255, 255, 255, 255, 255, 255, 254}
	check(m, slices.Concat(shared, []byte{0, 0}, idle, small, []byte{0, 0, 0, 0, 0, 0, 0, 0, 0, 0, 0})...)
	play(t, m, 1)
	check(m, slices.Concat(shared, []byte{0, 2}, idle, small, []byte{0, 1, 0, 0, 0, 1, 0, 0, 0, 0, 0})...)
	checkRun(t, m, 1, 2, 2, false)
	check(m, slices.Concat(shared, []byte{0, 2}, idle, small, []byte{0, 1, 0, 0, 0, 3, 0, 2, 2, 1, 0, 0, 0, 0, 0, 0, 1, 2}, small, []byte{0, 0})...)
	checkRun(t, m, 1, 1, 1, false)
	check(m, slices.Concat(shared, []byte{0, 2}, idle, small, []byte{0, 1, 0, 0, 0, 4, 0, 3, 1, 1, 0, 0, 0, 0, 0, 0, 1, 0, 0, 0})...)
	checkRun(t, m, 1, 1, 1, true)
	big := []byte{1, 0, 0, 0, 0, 0, 0, 1, 0}
	check(m, slices.Concat(shared, []byte{0, 2}, idle, big, []byte{0, 2, 0, 0, 0, 5, 0, 0, 0, 0, 0})...)
	play(t, m, 1)
	check(m, slices.Concat(shared, []byte{0, 2}, idle, big, []byte{0, 2, 0, 0, 0, 6, 0, 0, 0, 3, 2})...)
}

// The greatest code, work and stack.
func TestTheGreatest(t *testing.T) {
	pass := func(next int) api.Node { return node(api.Pass, 0, next, 0) }
	nodes := times(1024, pass(1024))
	nodes[0] = pass(1022)
	nodes[1022] = node(api.Take, 15, 1023, 0)
	high := append(times(64, lit(truth(1))), times(63, op(api.And))...)
	nodes[1023] = node(api.Demand, 0, 1023, 0, append(high, times(8192-127, op(api.Not))...)...)
	c := api.Code{Shared: times(32, number(-1)), Mutexes: 16, Bodies: times(16, api.Body{Locals: times(16, bits(api.NaN)), Stack: 64, Nodes: nodes})}
	m := machine(t, c, 65536)
	play(t, m, 15, 15)
	checkHeld(t, m, append(times(15, -1), 15)...)
	whole := m.Clone()
	checkStep(t, whole, 15, api.Local, 0, 8193)
	checkEnd(t, whole, api.Failed, 15)
	checkRun(t, m, 15, 64, 64, false)
	tail := m.State()
	tail = tail[len(tail)-2-64*9-9:]
	want := append([]byte{3, 255, 0, 0, 0, 66, 0, 64, 64}, bytes.Repeat([]byte{2, 0, 0, 0, 0, 0, 0, 0, 1}, 64)...)
	if !bytes.Equal(tail, append(want, 0, 0)) {
		t.Error(tail)
	}
	checkRun(t, m, 15, 8128, 8128, false)
	tail = m.State()
	tail = tail[len(tail)-2-9-9:]
	// 8192 - 127 times Not of true
	if !bytes.Equal(tail, []byte{3, 255, 0, 0, 32, 2, 32, 0, 1, 2, 0, 0, 0, 0, 0, 0, 0, 0, 0, 0}) {
		t.Error(tail)
	}
	checkRun(t, m, 15, math.MaxInt, 1, true)
	checkEnd(t, m, api.Failed, 15)
	if !bytes.Equal(m.State(), whole.State()) {
		t.Error("in pieces it is another one")
	}
	if size := 32*9 + 16 + 16*(16*9+9) + 2; len(m.State()) != size || m.State()[size-1] != 16 {
		t.Error(len(m.State()), size)
	}
	// With one Not less it holds, and comes again till the work is at its limit.
	nodes[1023].Code = nodes[1023].Code[:8191]
	m = machine(t, c, 65536)
	play(t, m, 3, 3)
	total := 2
	for how := api.Running; how == api.Running; how, _ = m.End() {
		_, n, err := m.Step(3)
		if total += n; err != api.OK {
			t.Fatal(err)
		}
	}
	checkEnd(t, m, api.Overrun, 3)
	if total != 65536 || m.Work(3) != 65536 {
		t.Error(total, m.Work(3))
	}
	if work := m.State()[32*9+16+3*(16*9+9)+16*9+2:][:4]; !bytes.Equal(work, []byte{0, 1, 0, 0}) {
		t.Error(work)
	}
}

func TestTheEndOfABody(t *testing.T) {
	m := machine(t, api.Code{Bodies: []api.Body{body(0, times(1024, node(api.Pass, 0, 1024, 0))...), body(0, node(api.Pass, 0, 1, 0))}}, 9)
	play(t, m, 0)
	checkThread(t, m, 0, 1024, 1)
	if !m.Over(0) || !bytes.Equal(m.State()[:2], []byte{4, 0}) {
		t.Error(m.State())
	}
	checkRefused(t, m, 0, 1, api.ErrState)
	play(t, m, 1)
	checkEnd(t, m, api.Done, -1)
}

// Rules 3, 4 and 8

// What is done to a code, or to an answer, later on is nothing to a machine.
func TestAnswersAreNewMemory(t *testing.T) {
	c := compiled(t, "shared x int = 1; mutex m; thread a { local i int; i = x; lock m; if i == 1 { x = i + 4; } else { x = 9; } }")
	kept := code.Copy(c)
	m := machine(t, c, 99)
	play(t, m, 0)
	if !code.Same(c, kept) {
		t.Error("the code was changed")
	}
	c.Shared[0], c.Bodies[0].Locals[0], c.Bodies[0].Nodes[3].Code[1].Lit = number(50), number(50), number(50)
	c.Bodies[0].Nodes[1].Kind, c.Bodies[0].Nodes[2].Next, c.Bodies[0].Nodes[3].Kind = api.Pass, 0, api.Pass
	c.Bodies[0].Nodes = nil
	m.Shared()[0], m.Held()[0], m.Locals(0)[0] = number(50), 7, number(50)
	for i := range m.State() {
		m.State()[i]++
	}
	checkStep(t, m, 0, api.Locks, 0, 1)
	checkStep(t, m, 0, api.Local, 0, 4)
	checkStep(t, m, 0, api.Writes, 0, 4)
	checkShared(t, m, number(5))
	checkHeld(t, m, 0)
	checkLocals(t, m, 0, number(1))
	checkEnd(t, m, api.Done, -1)
}

// piece is some memory: where it begins, how many bytes it has.
type piece struct{ from, size uintptr }

// rooms tells the lists' memory, with their spare room.
func rooms[T any](lists [][]T) []piece {
	var x T
	var all []piece
	for _, list := range lists {
		all = append(all, piece{uintptr(unsafe.Pointer(unsafe.SliceData(list))), uintptr(cap(list)) * unsafe.Sizeof(x)})
	}
	return all
}

func TestNoTwoAnswersShareMemory(t *testing.T) {
	c := compiled(t, "shared x int; shared y int; mutex m; mutex n; thread a { local i int; local j int; i = x; } thread b { local k int; y = k; }")
	m := machine(t, c, 99)
	values := [][]api.Value{c.Shared, c.Bodies[0].Locals, c.Bodies[1].Locals}
	var held [][]int
	var states [][]byte
	for _, m := range []*vm.Machine{m, m.Clone()} {
		for range 2 {
			values = append(values, m.Shared(), m.Locals(0), m.Locals(1))
			held, states = append(held, m.Held()), append(states, m.State())
		}
	}
	list := slices.Concat(rooms(values), rooms(held), rooms(states))
	for i, a := range list {
		for _, b := range list[:i] {
			if a.from < b.from+b.size && b.from < a.from+a.size {
				t.Error("memory is shared")
			}
		}
	}
	runtime.KeepAlive(values)
	runtime.KeepAlive(held)
	runtime.KeepAlive(states)
}

// The room behind the end of a list that is handed in is neither read, nor written, nor handed out.
func TestSpareRoom(t *testing.T) {
	c := compiled(t, "shared x int = 3; mutex m; thread a { local i int; i = x; assert i == 3; }")
	rest := number(99)
	c.Shared = append(c.Shared, rest)[:1]
	b := &c.Bodies[0]
	b.Locals = append(b.Locals, rest)[:1]
	b.Nodes = append(b.Nodes, node(99, 99, 99, 99))[:2]
	b.Nodes[0].Code = append(b.Nodes[0].Code, lit(rest))[:1]
	m := machine(t, c, 99)
	play(t, m, 0, 0)
	checkEnd(t, m, api.Done, -1)
	if c.Shared[:2][1] != rest || b.Locals[:2][1] != rest || b.Nodes[:3][2].Kind != 99 || b.Nodes[0].Code[:2][1] != lit(rest) {
		t.Error("spare room was written")
	}
	for _, list := range [][]api.Value{m.Shared(), m.Locals(0), m.Clone().Shared()} {
		if slices.Contains(list[:cap(list)], rest) {
			t.Error("spare room was handed out")
		}
	}
	// What stood on a stack, too.
	for _, spare := range m.State()[len(m.State()):cap(m.State())] {
		if spare != 0 {
			t.Error("spare room is not empty")
		}
	}
}

// What asks changes nothing.
func TestAskingChangesNothing(t *testing.T) {
	m := start(t, example, 99)
	checkRun(t, m, 0, 2, 2, false)
	before := m.State()
	for th := -1; th < 3; th++ {
		m.Next(th)
		m.Can(th)
		m.Over(th)
		m.Locals(th)
		m.Work(th)
		m.Place(th)
	}
	m.Busy()
	m.End()
	m.Threads()
	m.Shared()
	m.Held()
	m.Clone()
	if !bytes.Equal(before, m.State()) {
		t.Error("the state was changed")
	}
	checkStep(t, m, 0, api.Writes, 0, 2)
}
