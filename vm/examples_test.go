package vm_test

import (
	"slices"
	"testing"

	"assize/api"
	"assize/compile"
	"assize/parse"
	"assize/vm"
)

// Short ways to write values, codes and machines down.

func number(n int64) api.Value { return api.Value{T: api.Int, Bits: uint64(n)} }

func truth(b uint64) api.Value { return api.Value{T: api.Bool, Bits: b} }

func bits(b uint64) api.Value { return api.Value{T: api.Real, Bits: b} }

func lit(v api.Value) api.Instr { return api.Instr{Op: api.Lit, Lit: v} }

func load(n int) api.Instr { return api.Instr{Op: api.Load, Arg: n} }

func fetch(n int) api.Instr { return api.Instr{Op: api.Fetch, Arg: n} }

func op(o api.Op) api.Instr { return api.Instr{Op: o} }

// node tells a node.
func node(kind, arg, next, alt int, instrs ...api.Instr) api.Node {
	return api.Node{Code: instrs, Kind: kind, Arg: arg, Next: next, Alt: alt}
}

// body tells a body without locals.
func body(stack int, nodes ...api.Node) api.Body { return api.Body{Stack: stack, Nodes: nodes} }

// one tells a code of one body, which has a local.
func one(local api.Value, stack int, nodes ...api.Node) api.Code {
	return api.Code{Bodies: []api.Body{{Locals: []api.Value{local}, Stack: stack, Nodes: nodes}}}
}

// compiled tells the code of a program's text.
func compiled(t *testing.T, s string) api.Code {
	t.Helper()
	p, fault := parse.Parse(s)
	if fault.Err != api.OK {
		t.Fatalf("%.300q: %v", s, fault)
	}
	c, err := compile.Compile(p)
	if err != api.OK {
		t.Fatalf("%.300q: %v", s, err)
	}
	return c
}

// machine makes a machine of a code.
func machine(t *testing.T, c api.Code, work int) *vm.Machine {
	t.Helper()
	m, err := vm.New(c, work)
	if err != api.OK || m == nil {
		t.Fatal(work, err)
	}
	return m
}

// start makes a machine of a program's text.
func start(t *testing.T, s string, work int) *vm.Machine {
	t.Helper()
	return machine(t, compiled(t, s), work)
}

// play lets threads step that may.
func play(t *testing.T, m *vm.Machine, schedule ...int) {
	t.Helper()
	for _, th := range schedule {
		if _, _, err := m.Step(th); err != api.OK {
			t.Fatal(schedule, th, err)
		}
	}
}

func checkEnd(t *testing.T, m *vm.Machine, how, who int) {
	t.Helper()
	if h, w := m.End(); h != how || w != who {
		t.Errorf("End() = %d, %d; not %d, %d", h, w, how, who)
	}
}

// checkStep fails if a step is not made, with that event and so many instructions.
func checkStep(t *testing.T, m *vm.Machine, th, kind, object, done int) {
	t.Helper()
	if e, n, err := m.Step(th); e != (api.Event{Thread: th, Kind: kind, Object: object}) || n != done || err != api.OK {
		t.Errorf("Step(%d) = %v, %d, %v; not %d %d, %d", th, e, n, err, kind, object, done)
	}
}

// checkRun fails if other than so many instructions are done, or the step is over or not, otherwise than told.
func checkRun(t *testing.T, m *vm.Machine, th, n, done int, over bool) {
	t.Helper()
	if d, o, err := m.Run(th, n); d != done || o != over || err != api.OK {
		t.Errorf("Run(%d, %d) = %d, %v, %v; not %d, %v", th, n, d, o, err, done, over)
	}
}

// checkRefused fails if a thread's step is begun or gone on with, or refused by another error.
func checkRefused(t *testing.T, m *vm.Machine, th, n int, want api.Errno) {
	t.Helper()
	if d, over, err := m.Run(th, n); d != 0 || over || err != want {
		t.Errorf("Run(%d, %d) = %d, %v, %v; not %v", th, n, d, over, err, want)
	}
	if n < 0 {
		return
	}
	if e, d, err := m.Step(th); e != (api.Event{}) || d != 0 || err != want {
		t.Errorf("Step(%d) = %v, %d, %v; not %v", th, e, d, err, want)
	}
}

func checkNext(t *testing.T, m *vm.Machine, th, kind, object int) {
	t.Helper()
	if e, err := m.Next(th); e != (api.Event{Thread: th, Kind: kind, Object: object}) || err != api.OK {
		t.Errorf("Next(%d) = %v, %v; not %d %d", th, e, err, kind, object)
	}
}

func checkShared(t *testing.T, m *vm.Machine, want ...api.Value) {
	t.Helper()
	if got := m.Shared(); !slices.Equal(got, want) {
		t.Errorf("Shared() = %v; not %v", got, want)
	}
}

func checkLocals(t *testing.T, m *vm.Machine, th int, want ...api.Value) {
	t.Helper()
	if got := m.Locals(th); !slices.Equal(got, want) {
		t.Errorf("Locals(%d) = %v; not %v", th, got, want)
	}
}

func checkHeld(t *testing.T, m *vm.Machine, want ...int) {
	t.Helper()
	if got := m.Held(); !slices.Equal(got, want) {
		t.Errorf("Held() = %v; not %v", got, want)
	}
}

// checkThread fails if a thread's place or work is another one.
func checkThread(t *testing.T, m *vm.Machine, th, place, work int) {
	t.Helper()
	if m.Place(th) != place || m.Work(th) != work {
		t.Errorf("thread %d: place %d, work %d; not %d, %d", th, m.Place(th), m.Work(th), place, work)
	}
}

// checkBusy fails if another thread, or none, is in the midst of a step; of those that might, just it may go on.
func checkBusy(t *testing.T, m *vm.Machine, want int) {
	t.Helper()
	if m.Busy() != want {
		t.Errorf("Busy() = %d; not %d", m.Busy(), want)
	}
	for th := range m.Threads() {
		if want >= 0 && m.Can(th) != (th == want) {
			t.Errorf("%d is in the midst of a step, Can(%d) = %v", want, th, m.Can(th))
		}
	}
}

const example = "shared x int = 1; mutex m; thread a { x = 7 / 2; lock m; } thread b { local i int; lock m; i = x; assert i == 1; }"

// The table of the chapter, line by line.
func TestExamples(t *testing.T) {
	m := start(t, example, 100)
	checkStep(t, m, 1, api.Locks, 0, 1)
	checkRun(t, m, 1, 1, 1, false)
	checkBusy(t, m, 1)
	if m.Can(0) {
		t.Error("thread 0 may go on")
	}
	checkRun(t, m, 1, 9, 1, true)
	checkStep(t, m, 0, api.Writes, 0, 4)
	checkStep(t, m, 1, api.Local, 0, 4)
	checkEnd(t, m, api.Deadlock, -1)
	checkLocals(t, m, 1, number(1))
	small := start(t, example, 3)
	checkRun(t, small, 0, 9, 3, true)
	checkEnd(t, small, api.Overrun, 0)
	checkEnd(t, machine(t, api.Code{Bodies: []api.Body{{}}}, 9), api.Done, -1)
	if m, err := vm.New(api.Code{}, 9); m != nil || err != api.ErrArg {
		t.Error(m, err)
	}
	checkRefused(t, start(t, example, 100), 0, -1, api.ErrArg)
}
