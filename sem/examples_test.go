package sem_test

import (
	"math"
	"slices"
	"testing"

	"assize/api"
	"assize/parse"
	"assize/sem"
)

// Short ways to write values down.

func number(n int64) api.Value { return api.Value{T: api.Int, Bits: uint64(n)} }

func truth(b bool) api.Value {
	if b {
		return api.Value{T: api.Bool, Bits: 1}
	}
	return api.Value{T: api.Bool}
}

func float(f float64) api.Value {
	if f != f {
		return api.Value{T: api.Real, Bits: api.NaN}
	}
	return api.Value{T: api.Real, Bits: math.Float64bits(f)}
}

// program reads a program's text.
func program(t *testing.T, s string) api.Program {
	t.Helper()
	p, fault := parse.Parse(s)
	if fault.Err != api.OK {
		t.Fatalf("%.300q: %v", s, fault)
	}
	return p
}

// expr reads an expression's text.
func expr(t *testing.T, s string) api.Expr {
	t.Helper()
	e, fault := parse.Expr(s)
	if fault.Err != api.OK {
		t.Fatalf("%.300q: %v", s, fault)
	}
	return e
}

// start makes a run of a program's text.
func start(t *testing.T, s string, work int) *sem.Run {
	t.Helper()
	r, err := sem.New(program(t, s), work)
	if err != api.OK || r == nil {
		t.Fatal(s, work, err)
	}
	return r
}

// play lets threads step that may.
func play(t *testing.T, r *sem.Run, schedule ...int) {
	t.Helper()
	for _, th := range schedule {
		if _, err := r.Step(th); err != api.OK {
			t.Fatal(schedule, th, err)
		}
	}
}

func checkEnd(t *testing.T, r *sem.Run, how, who int) {
	t.Helper()
	if h, w := r.End(); h != how || w != who {
		t.Errorf("End() = %d, %d; not %d, %d", h, w, how, who)
	}
}

func checkWork(t *testing.T, r *sem.Run, want ...int) {
	t.Helper()
	for th, n := range want {
		if r.Work(th) != n {
			t.Errorf("Work(%d) = %d; not %d", th, r.Work(th), n)
		}
	}
}

func checkNext(t *testing.T, r *sem.Run, th, kind, object int) {
	t.Helper()
	if e, err := r.Next(th); e != (api.Event{Thread: th, Kind: kind, Object: object}) || err != api.OK {
		t.Errorf("Next(%d) = %v, %v; not %d %d", th, e, err, kind, object)
	}
}

func checkShared(t *testing.T, r *sem.Run, want ...api.Value) {
	t.Helper()
	if got := r.Shared(); !slices.Equal(got, want) {
		t.Errorf("Shared() = %v; not %v", got, want)
	}
}

const example = "shared x int = 1; mutex m; thread a { x = 7 / 2; lock m; } thread b { local i int; lock m; i = x; assert i == 1; }"

// The table of the chapter, line by line.
func TestExamples(t *testing.T) {
	r := start(t, example, 100)
	if !r.Can(0) || !r.Can(1) {
		t.Error(r.Can(0), r.Can(1))
	}
	checkNext(t, r, 0, api.Writes, 0)
	checkNext(t, r, 1, api.Locks, 0)
	other := r.Clone()
	play(t, r, 1, 1, 0, 1)
	checkShared(t, r, number(3))
	checkWork(t, r, 4, 7)
	if r.Can(0) || !r.Over(1) || !slices.Equal(r.Held(), []int{1}) {
		t.Error(r.Can(0), r.Over(1), r.Held())
	}
	checkEnd(t, r, api.Deadlock, -1)
	play(t, other, 0, 1, 1, 1)
	checkEnd(t, other, api.Failed, 1)
	if !slices.Equal(other.Locals(1), []api.Value{number(3)}) {
		t.Error(other.Locals(1))
	}
	small := start(t, example, 3)
	play(t, small, 0)
	checkEnd(t, small, api.Overrun, 0)
	checkWork(t, small, 3, 0)
	trap := start(t, "thread t { assert 1 / 0 == 1; }", 100)
	play(t, trap, 0)
	checkEnd(t, trap, api.Trapped, 0)
	checkWork(t, trap, 3)
}
