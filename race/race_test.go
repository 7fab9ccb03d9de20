package race_test

import (
	"math"
	"slices"
	"testing"

	"assize/api"
	"assize/race"
)

// times tells as many of something.
func times[T any](n int, x T) []T { return slices.Repeat([]T{x}, n) }

// P14.1, P14.2: what is refused, by all three alike

// checkNoTrace fails if a list is taken for a trace of n threads, or refused by another error, its last event being handed in apart or not.
func checkNoTrace(t *testing.T, l []api.Event, n int, want api.Errno) {
	t.Helper()
	checkRaces(t, l, n, nil, want)
	checkData(t, l, n, nil, want)
	if len(l) > 0 {
		checkPending(t, l[:len(l)-1], n, l[len(l)-1], nil, want)
	}
}

func TestHowManyThreads(t *testing.T) {
	for _, n := range []int{0, -1, -2, 17, 18, 1 << 16, 1 << 32, -1 << 32, 1<<32 + 2, math.MinInt, math.MaxInt} {
		for _, l := range [][]api.Event{nil, {}, {local(0)}, {local(-1)}, {local(17)}, {writes(0, 0), writes(0, 1)}, times(1024, local(0)), times(1025, local(0)), times(1025, local(99))} {
			checkNoTrace(t, l, n, api.ErrArg)
		}
		checkPending(t, nil, n, local(0), nil, api.ErrArg)
		checkPending(t, times(1024, local(0)), n, local(0), nil, api.ErrArg)
	}
	for n := 1; n <= 16; n++ {
		checkRaces(t, nil, n, nil, api.OK)
		checkData(t, nil, n, nil, api.OK)
		checkPending(t, nil, n, writes(3, n-1), nil, api.OK)
	}
	for n := 2; n <= 16; n++ {
		checkRaces(t, []api.Event{writes(3, n-1), writes(3, 0)}, n, list(0, 1), api.OK)
		checkData(t, []api.Event{writes(3, n-1), writes(3, 0)}, n, list(0, 1), api.OK)
		checkPending(t, []api.Event{writes(3, 0)}, n, writes(3, n-1), []int{0}, api.OK)
	}
}

func TestThreadsThatAreNone(t *testing.T) {
	for _, n := range []int{1, 2, 15, 16} {
		good := []api.Event{local(n - 1), writes(0, 0), reads(0, n-1), locks(0, 0)}
		for _, th := range []int{-1, n, n + 1, -n, 1 << 32, -1 << 32, math.MinInt, math.MaxInt} {
			for at := range len(good) + 1 {
				checkNoTrace(t, slices.Insert(slices.Clone(good), at, local(th)), n, api.ErrArg)
				checkNoTrace(t, slices.Insert(slices.Clone(good), at, writes(0, th)), n, api.ErrArg)
			}
			checkNoTrace(t, append(times(1023, local(0)), local(th)), n, api.ErrArg)
			// Too many are told ahead of a thread that is none.
			checkNoTrace(t, append(times(1024, local(0)), local(th)), n, api.ErrLong)
			checkNoTrace(t, append([]api.Event{local(th)}, times(1024, local(0))...), n, api.ErrLong)
		}
	}
}

// alternating tells so many events that write one variable, of two threads by turns.
func alternating(m int) []api.Event {
	l := make([]api.Event, m)
	for i := range l {
		l[i] = writes(0, i%2)
	}
	return l
}

func TestTheLongest(t *testing.T) {
	for _, m := range []int{1023, 1024} {
		l := alternating(m)
		var races, data []api.Pair
		for j := range m {
			if j > 0 {
				races = append(races, api.Pair{First: j - 1, Second: j})
			}
			for i := range j {
				if (i+j)%2 == 1 {
					data = append(data, api.Pair{First: i, Second: j})
				}
			}
		}
		checkRaces(t, l, 2, races, api.OK)
		checkData(t, l, 2, data, api.OK)
		checkPending(t, l[:m-1], 2, l[m-1], []int{m - 2}, api.OK)
	}
	for _, m := range []int{1025, 1026, 2048, 1 << 17} {
		checkNoTrace(t, make([]api.Event, m), 1, api.ErrLong)
		checkNoTrace(t, alternating(m), 16, api.ErrLong)
	}
	// With e behind them they are too many, though they are none alone.
	checkPending(t, alternating(1024), 2, writes(0, 0), nil, api.ErrLong)
	checkPending(t, alternating(1024), 2, local(2), nil, api.ErrLong)
	checkRaces(t, times(1024, local(0)), 1, nil, api.OK)
	checkData(t, times(1024, local(0)), 1, nil, api.OK)
}

// P14.1: what is told

func TestRaces(t *testing.T) {
	for _, x := range []struct {
		name string
		l    []api.Event
		want []api.Pair
	}{
		{"of one thread", []api.Event{writes(0, 1), reads(0, 1), locks(0, 1), unlocks(0, 1)}, nil},
		{"of unlike things", []api.Event{writes(0, 0), writes(1, 1), reads(2, 2), locks(0, 1), unlocks(1, 0)}, nil},
		{"a variable is no mutex", []api.Event{writes(0, 0), locks(0, 1), unlocks(1, 0), reads(1, 1)}, nil},
		{"of all pairs of a mutex's kinds", []api.Event{locks(0, 0), locks(0, 1), unlocks(0, 2), unlocks(0, 0), locks(0, 1)}, list(0, 1, 1, 2, 2, 3, 3, 4)},
		{"several with one second one", []api.Event{reads(0, 2), reads(0, 1), writes(0, 0)}, list(0, 2, 1, 2)},
		{"several with one first one", []api.Event{writes(0, 2), reads(0, 1), reads(0, 0)}, list(0, 1, 0, 2)},
		{"the last one of a thread alone", []api.Event{reads(0, 0), reads(0, 0), writes(0, 1)}, list(1, 2)},
		{"the first one of a thread alone", []api.Event{writes(0, 0), reads(0, 1), reads(0, 1)}, list(0, 1)},
		{"by way of the first one's thread", []api.Event{writes(0, 0), writes(1, 0), reads(1, 1), reads(0, 1)}, list(1, 2)},
		{"by way of the second one's thread", []api.Event{writes(0, 0), reads(0, 1), local(1), writes(0, 1)}, list(0, 1)},
		{"by way of a third thread", []api.Event{writes(0, 0), reads(0, 2), writes(1, 2), reads(1, 1), reads(0, 1)}, list(0, 1, 2, 3)},
		{"one between them that is not ahead of the second one", []api.Event{writes(0, 0), reads(0, 1), reads(0, 2)}, list(0, 1, 0, 2)},
		{"one between them of which the first one is not ahead", []api.Event{reads(0, 0), reads(0, 1), writes(0, 2)}, list(0, 2, 1, 2)},
		{"a later one of the first one's thread that is not ahead of the second one", []api.Event{writes(0, 0), local(0), writes(1, 0), reads(0, 1)}, list(0, 3)},
		{"an earlier one of the second one's thread that is free", []api.Event{writes(0, 0), local(1), reads(0, 1)}, list(0, 2)},
		{"an earlier one of the second one's thread ahead of both", []api.Event{writes(0, 1), writes(0, 0), writes(0, 1)}, list(0, 1, 1, 2)},
		{"numbers that are no kinds", []api.Event{{Kind: 7}, {Thread: 1, Kind: 7}, {Kind: -1}, {Thread: 1, Kind: math.MinInt}}, nil},
		{"any numbers of things", []api.Event{writes(-9, 0), reads(-9, 1), locks(math.MaxInt, 0), unlocks(math.MaxInt, 1)}, list(0, 1, 2, 3)},
	} {
		t.Run(x.name, func(t *testing.T) {
			checkRaces(t, x.l, 3, x.want, api.OK)
			checkTrace(t, x.l, 3)
		})
	}
}

func TestData(t *testing.T) {
	for _, x := range []struct {
		name string
		l    []api.Event
		want []api.Pair
	}{
		{"of one thread", []api.Event{writes(0, 1), reads(0, 1), writes(0, 1)}, nil},
		{"of unlike variables", []api.Event{writes(0, 0), writes(1, 1), reads(2, 2)}, nil},
		{"of a mutex", []api.Event{locks(0, 0), unlocks(0, 1), locks(0, 1), unlocks(0, 0)}, nil},
		{"a variable is no mutex", []api.Event{writes(0, 0), locks(0, 1), unlocks(1, 0), reads(1, 1)}, nil},
		{"none that writes", []api.Event{reads(0, 0), reads(0, 1), reads(0, 2)}, nil},
		{"the first one that writes", []api.Event{writes(0, 0), reads(0, 1)}, list(0, 1)},
		{"the second one that writes", []api.Event{reads(0, 0), writes(0, 1)}, list(0, 1)},
		{"both that write", []api.Event{writes(0, 0), writes(0, 1)}, list(0, 1)},
		{"not by races alone", []api.Event{writes(0, 0), reads(0, 1), writes(0, 0), reads(0, 1)}, list(0, 1, 1, 2, 0, 3, 2, 3)},
		{"one that unlocks, one that locks", []api.Event{writes(0, 0), unlocks(0, 0), locks(0, 1), writes(0, 1)}, nil},
		{"unlike mutexes", []api.Event{writes(0, 0), unlocks(0, 0), locks(1, 1), writes(0, 1)}, list(0, 3)},
		{"one that locks, one that locks", []api.Event{writes(0, 0), locks(0, 0), locks(0, 1), writes(0, 1)}, list(0, 3)},
		{"one that unlocks, one that unlocks", []api.Event{writes(0, 0), unlocks(0, 0), unlocks(0, 1), writes(0, 1)}, list(0, 3)},
		{"one that locks, one that unlocks", []api.Event{writes(0, 0), locks(0, 0), unlocks(0, 1), writes(0, 1)}, list(0, 3)},
		{"the one locks ahead of the other that unlocks", []api.Event{writes(0, 0), locks(0, 1), unlocks(0, 0), writes(0, 1)}, list(0, 3)},
		{"written behind what unlocks", []api.Event{unlocks(0, 0), writes(0, 0), locks(0, 1), writes(0, 1)}, list(1, 3)},
		{"read ahead of what locks", []api.Event{writes(0, 0), unlocks(0, 0), reads(0, 1), locks(0, 1)}, list(0, 2)},
		{"others lock between them", []api.Event{writes(0, 0), unlocks(0, 0), locks(0, 2), locks(0, 1), reads(0, 1)}, nil},
		{"by way of a third thread", []api.Event{writes(0, 0), unlocks(0, 0), locks(0, 2), unlocks(1, 2), locks(1, 1), reads(0, 1)}, nil},
		{"by a third thread the other way round", []api.Event{writes(0, 0), unlocks(0, 0), unlocks(1, 2), locks(0, 2), locks(1, 1), reads(0, 1)}, list(0, 5)},
		{"a variable between them guards nothing", []api.Event{writes(0, 0), writes(1, 0), reads(1, 1), reads(0, 1)}, list(1, 2, 0, 3)},
		{"numbers that are no kinds", []api.Event{{Kind: 7}, {Thread: 1, Kind: 7}, {Kind: -1}, {Thread: 1, Kind: math.MinInt}}, nil},
		{"any numbers of things", []api.Event{writes(-9, 0), unlocks(math.MinInt, 0), reads(-9, 2), locks(math.MinInt, 1), reads(-9, 1)}, list(0, 2)},
	} {
		t.Run(x.name, func(t *testing.T) {
			checkData(t, x.l, 3, x.want, api.OK)
			checkTrace(t, x.l, 3)
		})
	}
}

// P14.2

func TestPending(t *testing.T) {
	l := []api.Event{writes(0, 0), reads(0, 1), reads(0, 2), locks(0, 0), writes(1, 2)}
	for _, x := range []struct {
		e    api.Event
		want []int
	}{
		{writes(0, 0), []int{1, 2}},
		{writes(0, 1), []int{2}},
		{writes(0, 2), []int{1}},
		{writes(0, 3), []int{1, 2}},
		{reads(0, 0), nil},
		{reads(0, 1), nil},
		{reads(0, 3), []int{0}},
		{reads(1, 3), []int{4}},
		{reads(1, 2), nil},
		{writes(9, 3), nil},
		{locks(0, 0), nil},
		{locks(0, 1), []int{3}},
		{unlocks(0, 3), []int{3}},
		{locks(1, 3), nil},
		{local(1), nil},
		{api.Event{Thread: 3, Kind: 99}, nil},
		{api.Event{Thread: 3, Kind: math.MinInt, Object: -1}, nil},
	} {
		checkPending(t, l, 4, x.e, x.want, api.OK)
	}
	for _, th := range []int{-1, 4, 1 << 32, math.MinInt, math.MaxInt} {
		checkPending(t, l, 4, writes(0, th), nil, api.ErrArg)
		checkPending(t, nil, 4, writes(0, th), nil, api.ErrArg)
	}
	checkPending(t, l, 2, writes(0, 0), nil, api.ErrArg)
}

// All other threads may be in a race with one event at once, but each by one event alone.
func TestPendingOfAllThreads(t *testing.T) {
	var l []api.Event
	var want []int
	for th := range 16 {
		l = append(l, reads(0, th), reads(0, th))
		if th != 7 {
			want = append(want, 2*th+1)
		}
	}
	checkPending(t, l, 16, writes(0, 7), want, api.OK)
}

// Rule 4

// What is done to an answer, or to what was handed in, is nothing to the other one; nothing that is handed in is changed.
func TestAnswersAreNewMemory(t *testing.T) {
	l := []api.Event{writes(0, 0), writes(0, 1), reads(0, 2)}
	kept := slices.Clone(l)
	races, _ := race.Races(l, 3)
	data, _ := race.Data(l, 3)
	pending, _ := race.Pending(l, 3, writes(0, 0))
	if !slices.Equal(l, kept) {
		t.Fatal("something was changed")
	}
	for i := range l {
		l[i] = local(9)
	}
	if !slices.Equal(races, list(0, 1, 1, 2)) || !slices.Equal(data, list(0, 1, 0, 2, 1, 2)) || !slices.Equal(pending, []int{2}) {
		t.Error("what was handed in is looked at later", races, data, pending)
	}
	races[0], data[0], pending[0] = api.Pair{}, api.Pair{}, 99
	checkRaces(t, kept, 3, list(0, 1, 1, 2), api.OK)
	checkData(t, kept, 3, list(0, 1, 0, 2, 1, 2), api.OK)
	checkPending(t, kept, 3, writes(0, 0), []int{2}, api.OK)
}

// The room behind the end of a list that is handed in is neither read nor written.
func TestSpareRoom(t *testing.T) {
	l := []api.Event{writes(0, 0), writes(0, 1), reads(0, 2)}
	whole := append(slices.Clone(l), writes(0, 99), writes(0, 0))
	checkRaces(t, whole[:3], 3, list(0, 1, 1, 2), api.OK)
	checkData(t, whole[:3], 3, list(0, 1, 0, 2, 1, 2), api.OK)
	checkPending(t, whole[:3], 3, writes(0, 0), []int{2}, api.OK)
	checkPending(t, whole[:3], 3, writes(0, 3), nil, api.ErrArg)
	if !slices.Equal(whole, append(slices.Clone(l), writes(0, 99), writes(0, 0))) {
		t.Error("spare room was written", whole)
	}
}
