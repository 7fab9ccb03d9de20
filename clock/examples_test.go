package clock_test

import (
	"fmt"
	"slices"
	"testing"

	"assize/api"
	"assize/clock"
)

// Short ways to write events down.

func local(thread int) api.Event { return api.Event{Thread: thread, Kind: api.Local} }

func reads(object, thread int) api.Event {
	return api.Event{Thread: thread, Kind: api.Reads, Object: object}
}

func writes(object, thread int) api.Event {
	return api.Event{Thread: thread, Kind: api.Writes, Object: object}
}

func locks(object, thread int) api.Event {
	return api.Event{Thread: thread, Kind: api.Locks, Object: object}
}

func unlocks(object, thread int) api.Event {
	return api.Event{Thread: thread, Kind: api.Unlocks, Object: object}
}

// short tells the beginning of a list.
func short[T any](l []T) string { return fmt.Sprintf("%.300s", fmt.Sprint(l)) }

func sameClocks(a, b [][]int) bool { return slices.EqualFunc(a, b, slices.Equal[[]int]) }

// checkClocks fails if a trace has other clocks, or is refused otherwise.
func checkClocks(t *testing.T, l []api.Event, n int, want [][]int, wantErr api.Errno) {
	t.Helper()
	if got, err := clock.Clocks(l, n); !sameClocks(got, want) || err != wantErr {
		t.Fatalf("Clocks(%s, %d) = %s, %v; not %s, %v", short(l), n, short(got), err, short(want), wantErr)
	}
}

// checkPast fails if other events happen ahead of one, or it is refused otherwise.
func checkPast(t *testing.T, l []api.Event, n, i int, want []int, wantErr api.Errno) {
	t.Helper()
	if got, err := clock.Past(l, n, i); !slices.Equal(got, want) || err != wantErr {
		t.Fatalf("Past(%s, %d, %d) = %s, %v; not %s, %v", short(l), n, i, short(got), err, short(want), wantErr)
	}
}

// checkAhead fails if clocks tell otherwise of two events, or are refused otherwise.
func checkAhead(t *testing.T, clocks [][]int, l []api.Event, i, j int, want bool, wantErr api.Errno) {
	t.Helper()
	if got, err := clock.Ahead(clocks, l, i, j); got != want || err != wantErr {
		t.Fatalf("Ahead(%s, %s, %d, %d) = %v, %v; not %v, %v", short(clocks), short(l), i, j, got, err, want, wantErr)
	}
}

// checkNext fails if an event would have another clock, or is refused otherwise.
func checkNext(t *testing.T, clocks [][]int, l []api.Event, n int, e api.Event, want []int, wantErr api.Errno) {
	t.Helper()
	if got, err := clock.Next(clocks, l, n, e); !slices.Equal(got, want) || err != wantErr {
		t.Fatalf("Next(%s, %s, %d, %v) = %v, %v; not %v, %v", short(clocks), short(l), n, e, got, err, want, wantErr)
	}
}

// example tells the trace of the chapter's table, and its clocks.
func example() ([]api.Event, [][]int) {
	return []api.Event{writes(0, 0), reads(0, 1), local(1), writes(1, 0), reads(1, 1)},
		[][]int{{1, 0}, {1, 1}, {1, 2}, {2, 0}, {2, 3}}
}

// The table of the chapter, line by line.
func TestExamples(t *testing.T) {
	l, clocks := example()
	checkClocks(t, l, 2, clocks, api.OK)
	checkAhead(t, clocks, l, 0, 1, true, api.OK)
	checkAhead(t, clocks, l, 2, 3, false, api.OK)
	checkAhead(t, clocks, l, 3, 4, true, api.OK)
	checkAhead(t, clocks, l, 1, 0, false, api.OK)
	checkPast(t, l, 2, 4, []int{0, 1, 2, 3}, api.OK)
	checkClocks(t, l, 1, nil, api.ErrArg)
}
