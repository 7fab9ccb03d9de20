package race_test

import (
	"fmt"
	"slices"
	"testing"

	"assize/api"
	"assize/race"
)

// Short ways to write events down.

func local(thread int) api.Event { return api.Event{Thread: thread, Kind: api.Local} }

func reads(object, thread int) api.Event {
	return api.Event{Thread: thread, Kind: api.Reads, Object: object}
}

func writes(object, thread int) api.Event {
	return api.Event{Thread: thread, Kind: api.Writes, Object: object}
}

func locks(object, thread int) api.Event {
	return api.Event{Thread: thread, Kind: api.Locks, Object: object}
}

func unlocks(object, thread int) api.Event {
	return api.Event{Thread: thread, Kind: api.Unlocks, Object: object}
}

// held tells the events of a thread that writes the variable 0 while it holds the mutex 0.
func held(thread int) []api.Event {
	return []api.Event{locks(0, thread), writes(0, thread), unlocks(0, thread)}
}

// list tells pairs of their numbers, one behind the other.
func list(numbers ...int) []api.Pair {
	var pairs []api.Pair
	for two := range slices.Chunk(numbers, 2) {
		pairs = append(pairs, api.Pair{First: two[0], Second: two[1]})
	}
	return pairs
}

// short tells the beginning of a list.
func short[T any](l []T) string { return fmt.Sprintf("%.300s", fmt.Sprint(l)) }

// checkRaces fails if a trace has other races, or is refused otherwise.
func checkRaces(t *testing.T, l []api.Event, n int, want []api.Pair, wantErr api.Errno) {
	t.Helper()
	if got, err := race.Races(l, n); !slices.Equal(got, want) || err != wantErr {
		t.Fatalf("Races(%s, %d) = %s, %v; not %s, %v", short(l), n, short(got), err, short(want), wantErr)
	}
}

// checkData fails if a trace has other data races, or is refused otherwise.
func checkData(t *testing.T, l []api.Event, n int, want []api.Pair, wantErr api.Errno) {
	t.Helper()
	if got, err := race.Data(l, n); !slices.Equal(got, want) || err != wantErr {
		t.Fatalf("Data(%s, %d) = %s, %v; not %s, %v", short(l), n, short(got), err, short(want), wantErr)
	}
}

// checkPending fails if an event would be in a race with other ones, or is refused otherwise.
func checkPending(t *testing.T, l []api.Event, n int, e api.Event, want []int, wantErr api.Errno) {
	t.Helper()
	if got, err := race.Pending(l, n, e); !slices.Equal(got, want) || err != wantErr {
		t.Fatalf("Pending(%s, %d, %v) = %s, %v; not %s, %v", short(l), n, e, short(got), err, short(want), wantErr)
	}
}

// The table of the chapter, line by line.
func TestExamples(t *testing.T) {
	for _, x := range []struct {
		l           []api.Event
		races, data []api.Pair
	}{
		{[]api.Event{writes(0, 0), reads(0, 1)}, list(0, 1), list(0, 1)},
		{append(held(0), held(1)...), list(2, 3), nil},
		{[]api.Event{writes(0, 0), writes(0, 1), writes(0, 2)}, list(0, 1, 1, 2), list(0, 1, 0, 2, 1, 2)},
		{[]api.Event{reads(0, 0), reads(0, 1)}, nil, nil},
	} {
		for _, n := range []int{3, 16} {
			checkRaces(t, x.l, n, x.races, api.OK)
			checkData(t, x.l, n, x.data, api.OK)
		}
	}
	checkPending(t, []api.Event{locks(0, 0)}, 2, locks(0, 1), []int{0}, api.OK)
}
