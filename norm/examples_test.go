package norm_test

import (
	"fmt"
	"slices"
	"testing"

	"assize/api"
	"assize/norm"
)

// Short ways to write events down.

func local(thread int) api.Event { return api.Event{Thread: thread, Kind: api.Local} }

func reads(object, thread int) api.Event {
	return api.Event{Thread: thread, Kind: api.Reads, Object: object}
}

func writes(object, thread int) api.Event {
	return api.Event{Thread: thread, Kind: api.Writes, Object: object}
}

func locks(object, thread int) api.Event {
	return api.Event{Thread: thread, Kind: api.Locks, Object: object}
}

func unlocks(object, thread int) api.Event {
	return api.Event{Thread: thread, Kind: api.Unlocks, Object: object}
}

// short tells the beginning of a list.
func short[T any](l []T) string { return fmt.Sprintf("%.300s", fmt.Sprint(l)) }

// checkLeast fails if a trace has another least form, or is refused otherwise.
func checkLeast(t *testing.T, l []api.Event, n int, want []int, wantErr api.Errno) {
	t.Helper()
	if got, err := norm.Least(l, n); !slices.Equal(got, want) || err != wantErr {
		t.Fatalf("Least(%s, %d) = %s, %v; not %s, %v", short(l), n, short(got), err, short(want), wantErr)
	}
}

// checkLevels fails if a trace has other levels, or is refused otherwise.
func checkLevels(t *testing.T, l []api.Event, n int, want [][]int, wantErr api.Errno) {
	t.Helper()
	if got, err := norm.Levels(l, n); !slices.EqualFunc(got, want, slices.Equal[[]int]) || err != wantErr {
		t.Fatalf("Levels(%s, %d) = %s, %v; not %s, %v", short(l), n, short(got), err, short(want), wantErr)
	}
}

// checkEquivalent fails if two traces are told to be equivalent, or not, against what is wanted, or are refused otherwise.
func checkEquivalent(t *testing.T, a, b []api.Event, n int, want bool, wantErr api.Errno) {
	t.Helper()
	if got, err := norm.Equivalent(a, b, n); got != want || err != wantErr {
		t.Fatalf("Equivalent(%s, %s, %d) = %v, %v; not %v, %v", short(a), short(b), n, got, err, want, wantErr)
	}
}

// checkSchedule fails if events in an order have other threads, or the order is refused otherwise.
func checkSchedule(t *testing.T, l []api.Event, order, want []int, wantErr api.Errno) {
	t.Helper()
	if got, err := norm.Schedule(l, order); !slices.Equal(got, want) || err != wantErr {
		t.Fatalf("Schedule(%s, %s) = %s, %v; not %s, %v", short(l), short(order), short(got), err, short(want), wantErr)
	}
}

// The table of the chapter, line by line.
func TestExamples(t *testing.T) {
	first := []api.Event{local(1), local(0)}
	for _, x := range []struct {
		l      []api.Event
		least  []int
		levels [][]int
	}{
		{first, []int{1, 0}, [][]int{{1, 0}}},
		{[]api.Event{writes(0, 1), reads(0, 0), local(1)}, []int{0, 1, 2}, [][]int{{0}, {1, 2}}},
		{[]api.Event{locks(0, 1), writes(0, 0), unlocks(0, 1)}, []int{1, 0, 2}, [][]int{{1, 0}, {2}}},
	} {
		for _, n := range []int{2, 3, 16} {
			checkLeast(t, x.l, n, x.least, api.OK)
			checkLevels(t, x.l, n, x.levels, api.OK)
		}
	}
	checkEquivalent(t, first, []api.Event{local(0), local(1)}, 2, true, api.OK)
	checkSchedule(t, first, []int{1, 0}, []int{0, 1}, api.OK)
	checkSchedule(t, first, []int{0, 0}, nil, api.ErrArg)
}
