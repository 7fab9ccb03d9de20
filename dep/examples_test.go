package dep_test

import (
	"bytes"
	"fmt"
	"slices"
	"testing"

	"assize/api"
	"assize/compile"
	"assize/dep"
	"assize/parse"
	"assize/vm"
)

// Short ways to write events and codes down.

func local(thread int) api.Event { return api.Event{Thread: thread, Kind: api.Local} }

func reads(object, thread int) api.Event {
	return api.Event{Thread: thread, Kind: api.Reads, Object: object}
}

func writes(object, thread int) api.Event {
	return api.Event{Thread: thread, Kind: api.Writes, Object: object}
}

func locks(object, thread int) api.Event {
	return api.Event{Thread: thread, Kind: api.Locks, Object: object}
}

func unlocks(object, thread int) api.Event {
	return api.Event{Thread: thread, Kind: api.Unlocks, Object: object}
}

func number(n int64) api.Value { return api.Value{T: api.Int, Bits: uint64(n)} }

// short tells the beginning of a list.
func short[T any](l []T) string { return fmt.Sprintf("%.300s", fmt.Sprint(l)) }

// compiled tells the code of a program's text.
func compiled(t *testing.T, s string) api.Code {
	t.Helper()
	p, fault := parse.Parse(s)
	if fault.Err != api.OK {
		t.Fatalf("%.300q: %v", s, fault)
	}
	c, err := compile.Compile(p)
	if err != api.OK {
		t.Fatalf("%.300q: %v", s, err)
	}
	return c
}

// checkDepends fails if two events depend on one another otherwise than told, one way or the other.
func checkDepends(t *testing.T, a, b api.Event, want bool) {
	t.Helper()
	if dep.Depends(a, b) != want || dep.Depends(b, a) != want {
		t.Errorf("Depends of %v and %v: %v, %v; not %v", a, b, dep.Depends(a, b), dep.Depends(b, a), want)
	}
}

// stepped tells the state of a machine that was let step by hand.
func stepped(t *testing.T, c api.Code, work int, schedule []int) []byte {
	t.Helper()
	m, err := vm.New(c, work)
	if err != api.OK {
		t.Fatal(err)
	}
	for _, th := range schedule {
		if _, _, err := m.Step(th); err != api.OK {
			t.Fatal(schedule, th, err)
		}
	}
	return m.State()
}

// checkPlayed fails if a schedule is not played with these events, and to the state to which its steps lead; it tells the machine.
func checkPlayed(t *testing.T, c api.Code, work int, schedule []int, want ...api.Event) *vm.Machine {
	t.Helper()
	events, m, err := dep.Play(c, work, schedule)
	if err != api.OK || !slices.Equal(events, want) {
		t.Fatalf("Play(.., %d, %s) = %s, %v; not %s", work, short(schedule), short(events), err, short(want))
	}
	if !bytes.Equal(m.State(), stepped(t, c, work, schedule)) {
		t.Fatalf("Play(.., %d, %s) leads to another state", work, short(schedule))
	}
	return m
}

// checkNotPlayed fails if a schedule is played, or refused by another error.
func checkNotPlayed(t *testing.T, c api.Code, work int, schedule []int, want api.Errno) {
	t.Helper()
	if events, m, err := dep.Play(c, work, schedule); len(events) != 0 || m != nil || err != want {
		t.Errorf("Play(.., %d, %s) = %s, %v, %v; not %v", work, short(schedule), short(events), m != nil, err, want)
	}
}

func checkEnd(t *testing.T, m *vm.Machine, how, who int) {
	t.Helper()
	if h, w := m.End(); h != how || w != who {
		t.Errorf("End() = %d, %d; not %d, %d", h, w, how, who)
	}
}

// checkSwapped fails if a list with two changed about is another one.
func checkSwapped(t *testing.T, l []int, at int, want []int, wantErr api.Errno) {
	t.Helper()
	if got, err := dep.Swapped(l, at); !slices.Equal(got, want) || err != wantErr {
		t.Errorf("Swapped(%s, %d) = %s, %v; not %s, %v", short(l), at, short(got), err, short(want), wantErr)
	}
}

const example = "shared x int = 1; mutex m; thread a { x = 7 / 2; lock m; } thread b { local i int; lock m; i = x; assert i == 1; }"

// The table of the chapter, line by line.
func TestExamples(t *testing.T) {
	checkDepends(t, reads(0, 0), reads(0, 1), false)
	checkDepends(t, reads(0, 0), writes(0, 1), true)
	checkDepends(t, locks(1, 0), unlocks(1, 1), true)
	checkDepends(t, locks(1, 0), writes(1, 1), false)
	checkDepends(t, local(0), local(0), true)
	checkDepends(t, local(0), local(1), false)
	checkSwapped(t, []int{1, 2, 3}, 1, []int{1, 3, 2}, api.OK)
	checkSwapped(t, []int{1}, 0, nil, api.ErrArg)
	m := checkPlayed(t, compiled(t, example), 100, []int{1, 1, 0}, locks(0, 1), reads(0, 1), writes(0, 0))
	checkEnd(t, m, api.Running, -1)
	if !slices.Equal(m.Shared(), []api.Value{number(3)}) {
		t.Error(m.Shared())
	}
}
