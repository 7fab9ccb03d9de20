package norm_test

import (
	"math"
	"slices"
	"testing"

	"assize/api"
	"assize/norm"
)

// times tells as many of something.
func times[T any](n int, x T) []T { return slices.Repeat([]T{x}, n) }

// rising tells the numbers from 0 to n - 1.
func rising(n int) []int {
	l := make([]int, n)
	for i := range l {
		l[i] = i
	}
	return l
}

// P15.1, P15.2: what is refused

// checkNoTrace fails if a list is taken for a trace of n threads, or refused by another error, with another one that may be beside it or not.
func checkNoTrace(t *testing.T, l []api.Event, n int, want api.Errno) {
	t.Helper()
	checkLeast(t, l, n, nil, want)
	checkLevels(t, l, n, nil, want)
	checkEquivalent(t, l, l, n, false, want)
	checkEquivalent(t, l, nil, n, false, want)
	checkEquivalent(t, nil, l, n, false, want)
}

func TestHowManyThreads(t *testing.T) {
	for _, n := range []int{0, -1, -2, 17, 18, 1 << 16, 1 << 32, -1 << 32, 1<<32 + 2, math.MinInt, math.MaxInt} {
		for _, l := range [][]api.Event{nil, {}, {local(0)}, {local(-1)}, {local(17)}, {writes(0, 0), writes(0, 1)}, times(1024, local(0)), times(1025, local(0)), times(1025, local(99))} {
			checkNoTrace(t, l, n, api.ErrArg)
			checkEquivalent(t, l, times(1025, local(0)), n, false, api.ErrArg)
		}
	}
	for n := 1; n <= 16; n++ {
		checkLeast(t, nil, n, nil, api.OK)
		checkLevels(t, nil, n, nil, api.OK)
		checkEquivalent(t, nil, []api.Event{}, n, true, api.OK)
		l := []api.Event{local(n - 1), writes(3, n-1)}
		checkLeast(t, l, n, []int{0, 1}, api.OK)
		checkLevels(t, l, n, [][]int{{0}, {1}}, api.OK)
		checkEquivalent(t, l, slices.Clone(l), n, true, api.OK)
	}
}

func TestThreadsThatAreNone(t *testing.T) {
	for _, n := range []int{1, 2, 15, 16} {
		good := []api.Event{local(n - 1), writes(0, 0), reads(0, n-1), locks(0, 0)}
		for _, th := range []int{-1, n, n + 1, -n, 1 << 32, -1 << 32, math.MinInt, math.MaxInt} {
			for at := range len(good) + 1 {
				checkNoTrace(t, slices.Insert(slices.Clone(good), at, local(th)), n, api.ErrArg)
				checkNoTrace(t, slices.Insert(slices.Clone(good), at, writes(0, th)), n, api.ErrArg)
			}
			checkNoTrace(t, append(times(1023, local(0)), local(th)), n, api.ErrArg)
			// Too many are told ahead of a thread that is none.
			checkNoTrace(t, append(times(1024, local(0)), local(th)), n, api.ErrLong)
			checkNoTrace(t, append([]api.Event{local(th)}, times(1024, local(0))...), n, api.ErrLong)
		}
	}
}

// All that is wrong with the first trace is told ahead of what is wrong with the second one.
func TestTheFirstTraceIsToldFirst(t *testing.T) {
	good, strange, long := []api.Event{local(0)}, []api.Event{local(0), local(2)}, times(1025, local(0))
	checkEquivalent(t, strange, long, 2, false, api.ErrArg)
	checkEquivalent(t, long, strange, 2, false, api.ErrLong)
	checkEquivalent(t, good, strange, 2, false, api.ErrArg)
	checkEquivalent(t, strange, good, 2, false, api.ErrArg)
	checkEquivalent(t, good, long, 2, false, api.ErrLong)
	checkEquivalent(t, long, good, 2, false, api.ErrLong)
}

func TestTheLongest(t *testing.T) {
	for _, m := range []int{1023, 1024} {
		chain, free := make([]api.Event, m), make([]api.Event, m)
		var each [][]int
		for i := range m {
			chain[i] = writes(0, i%2)
			free[i] = local(15 - i%16)
			each = append(each, []int{i})
		}
		checkLeast(t, chain, 2, rising(m), api.OK)
		checkLevels(t, chain, 2, each, api.OK)
		checkEquivalent(t, chain, chain, 2, true, api.OK)
		about := slices.Clone(chain)
		about[m-2], about[m-1] = about[m-1], about[m-2]
		checkEquivalent(t, chain, about, 2, false, api.OK)

		order := rising(m)
		slices.SortStableFunc(order, func(i, j int) int { return free[i].Thread - free[j].Thread })
		checkLeast(t, free, 16, order, api.OK)
		var levels [][]int
		for sixteen := range slices.Chunk(rising(m), 16) {
			slices.Reverse(sixteen)
			levels = append(levels, sixteen)
		}
		checkLevels(t, free, 16, levels, api.OK)
		other := slices.Clone(free)
		slices.SortStableFunc(other, func(a, b api.Event) int { return a.Thread - b.Thread })
		checkEquivalent(t, free, other, 16, true, api.OK)
	}
	for _, m := range []int{1025, 1026, 2048, 1 << 17} {
		checkNoTrace(t, make([]api.Event, m), 1, api.ErrLong)
	}
}

// P15.1: what is told

func TestForms(t *testing.T) {
	for _, x := range []struct {
		name   string
		l      []api.Event
		least  []int
		levels [][]int
	}{
		{"of one thread", []api.Event{local(1), writes(0, 1), local(1)}, []int{0, 1, 2}, [][]int{{0}, {1}, {2}}},
		{"none that depend", []api.Event{local(2), writes(0, 1), locks(0, 0)}, []int{2, 1, 0}, [][]int{{2, 1, 0}}},
		{"a thread as a whole ahead of another one", []api.Event{local(1), local(0), local(1), local(0)}, []int{1, 3, 0, 2}, [][]int{{1, 0}, {3, 2}}},
		{"none that writes", []api.Event{reads(0, 1), reads(0, 0)}, []int{1, 0}, [][]int{{1, 0}}},
		{"one that writes", []api.Event{reads(0, 1), writes(0, 0)}, []int{0, 1}, [][]int{{0}, {1}}},
		{"one mutex", []api.Event{unlocks(0, 1), unlocks(0, 0)}, []int{0, 1}, [][]int{{0}, {1}}},
		{"unlike mutexes", []api.Event{unlocks(0, 1), unlocks(1, 0)}, []int{1, 0}, [][]int{{1, 0}}},
		{"a variable is no mutex", []api.Event{writes(0, 1), locks(0, 0)}, []int{1, 0}, [][]int{{1, 0}}},
		{"one that waits lets others go ahead", []api.Event{writes(0, 2), reads(0, 0), local(1)}, []int{2, 0, 1}, [][]int{{2, 0}, {1}}},
		{"as soon as it may, the least thread goes on", []api.Event{writes(0, 2), reads(0, 0), local(2), local(1), local(1)}, []int{3, 4, 0, 1, 2}, [][]int{{3, 0}, {1, 4, 2}}},
		{"one that waits for two", []api.Event{writes(0, 2), writes(1, 1), writes(0, 1), reads(0, 0)}, []int{1, 0, 2, 3}, [][]int{{1, 0}, {2}, {3}}},
		{"by way of a third thread", []api.Event{writes(0, 2), reads(0, 1), writes(1, 1), reads(1, 0)}, []int{0, 1, 2, 3}, [][]int{{0}, {1}, {2}, {3}}},
		{"the greatest of those ahead", []api.Event{local(1), local(1), local(1), writes(0, 1), writes(1, 2), local(0), reads(1, 0), reads(0, 0)}, []int{5, 0, 1, 2, 3, 4, 6, 7}, [][]int{{5, 0, 4}, {6, 1}, {2}, {3}, {7}}},
		{"numbers that are no kinds", []api.Event{{Thread: 1, Kind: 7}, {Kind: 7}, {Thread: 1, Kind: math.MinInt}, {Kind: -1}}, []int{1, 3, 0, 2}, [][]int{{1, 0}, {3, 2}}},
		{"any numbers of things", []api.Event{writes(-9, 1), reads(-9, 0), locks(math.MaxInt, 1), unlocks(math.MaxInt, 0)}, []int{0, 1, 2, 3}, [][]int{{0}, {1, 2}, {3}}},
	} {
		t.Run(x.name, func(t *testing.T) {
			checkLeast(t, x.l, 3, x.least, api.OK)
			checkLevels(t, x.l, 3, x.levels, api.OK)
			checkTrace(t, x.l, 3)
		})
	}
}

// P15.2

func TestEquivalent(t *testing.T) {
	for _, x := range []struct {
		name string
		a, b []api.Event
		want bool
	}{
		{"both empty", nil, nil, true},
		{"one empty", nil, []api.Event{local(0)}, false},
		{"one itself", []api.Event{writes(0, 1), writes(0, 0)}, []api.Event{writes(0, 1), writes(0, 0)}, true},
		{"one longer", []api.Event{local(0)}, []api.Event{local(0), local(0)}, false},
		{"neighbours that do not depend", []api.Event{writes(0, 1), writes(1, 0)}, []api.Event{writes(1, 0), writes(0, 1)}, true},
		{"neighbours that depend", []api.Event{writes(0, 1), reads(0, 0)}, []api.Event{reads(0, 0), writes(0, 1)}, false},
		{"of one thread", []api.Event{local(0), writes(0, 0)}, []api.Event{writes(0, 0), local(0)}, false},
		{"changed about again and again", []api.Event{local(0), local(0), local(1), local(2)}, []api.Event{local(2), local(1), local(0), local(0)}, true},
		{"one held up by another one", []api.Event{writes(0, 0), reads(0, 1), local(2), reads(0, 2)}, []api.Event{local(2), reads(0, 2), writes(0, 0), reads(0, 1)}, false},
		{"one that is not held up", []api.Event{writes(0, 0), reads(0, 1), local(2), reads(0, 2)}, []api.Event{local(2), writes(0, 0), reads(0, 2), reads(0, 1)}, true},
		{"unlike events of one thread", []api.Event{writes(0, 0)}, []api.Event{reads(0, 0)}, false},
		{"unlike things", []api.Event{writes(0, 0)}, []api.Event{writes(1, 0)}, false},
		{"unlike threads", []api.Event{local(0)}, []api.Event{local(1)}, false},
		{"unlike numbers of nothing", []api.Event{local(0)}, []api.Event{{Object: 1}}, false},
		{"the same threads, other events", []api.Event{writes(0, 0), locks(0, 1)}, []api.Event{locks(0, 0), writes(0, 1)}, false},
		{"the same numbers, other events", []api.Event{local(0), writes(0, 1)}, []api.Event{local(0), writes(1, 1)}, false},
		{"one mutex's turns", []api.Event{locks(0, 0), unlocks(0, 0), locks(0, 1), unlocks(0, 1)}, []api.Event{locks(0, 1), unlocks(0, 1), locks(0, 0), unlocks(0, 0)}, false},
	} {
		t.Run(x.name, func(t *testing.T) {
			checkEquivalent(t, x.a, x.b, 3, x.want, api.OK)
			checkEquivalent(t, x.b, x.a, 3, x.want, api.OK)
		})
	}
}

func TestSchedule(t *testing.T) {
	l := []api.Event{local(4), writes(0, 7), reads(0, 4), locks(0, 2)}
	checkSchedule(t, l, []int{0, 1, 2, 3}, []int{4, 7, 4, 2}, api.OK)
	checkSchedule(t, l, []int{3, 2, 1, 0}, []int{2, 4, 7, 4}, api.OK)
	checkSchedule(t, l, []int{2, 0, 3, 1}, []int{4, 4, 2, 7}, api.OK)
	checkSchedule(t, nil, nil, nil, api.OK)
	checkSchedule(t, []api.Event{}, []int{}, nil, api.OK)
	for _, order := range [][]int{
		nil, {}, {0}, {0, 1, 2}, {0, 1, 2, 2}, {0, 0, 0, 0}, {0, 1, 2, 4}, {1, 2, 3, 4}, {-1, 1, 2, 3}, {0, 1, 2, 3, 4}, {0, 1, 2, 3, 3}, {0, 1, 2, 3, -1},
		{0, 1, 2, math.MaxInt}, {math.MinInt, 1, 2, 3}, {0, 1, 2, 1<<32 + 3}, {3, 2, 1, 0, 0, 1, 2, 3},
	} {
		checkSchedule(t, l, order, nil, api.ErrArg)
	}
	checkSchedule(t, nil, []int{0}, nil, api.ErrArg)
	checkSchedule(t, nil, []int{-1}, nil, api.ErrArg)
}

// The events need not be a trace: neither their threads nor how many they are matters here.
func TestScheduleOfAnyEvents(t *testing.T) {
	checkSchedule(t, []api.Event{local(math.MinInt), local(math.MaxInt), local(-1)}, []int{2, 1, 0}, []int{-1, math.MaxInt, math.MinInt}, api.OK)
	l := make([]api.Event, 5000)
	var want []int
	for i := range l {
		l[i] = local(-i)
		want = append(want, -i)
	}
	checkSchedule(t, l, rising(5000), want, api.OK)
	order := rising(5000)
	slices.Reverse(order)
	slices.Reverse(want)
	checkSchedule(t, l, order, want, api.OK)
	order[4999] = 4999
	checkSchedule(t, l, order, nil, api.ErrArg)
}

// All lists of up to four numbers from -1 to 4, held against lists of up to four events.
func TestEveryShortOrder(t *testing.T) {
	good := 0
	var each func(l []api.Event, order []int)
	each = func(l []api.Event, order []int) {
		if sorted := slices.Sorted(slices.Values(order)); slices.Equal(sorted, rising(len(l))) {
			var want []int
			for _, i := range order {
				want = append(want, l[i].Thread)
			}
			checkSchedule(t, l, order, want, api.OK)
			good++
		} else {
			checkSchedule(t, l, order, nil, api.ErrArg)
		}
		for next := -1; next <= 4 && len(order) < 4; next++ {
			each(l, append(slices.Clone(order), next))
		}
	}
	for n := range 5 {
		each([]api.Event{local(5), local(6), local(5), local(7)}[:n], nil)
	}
	if good != 1+1+2+6+24 {
		t.Error(good)
	}
}

// Rule 4

// What is done to an answer, or to what was handed in, is nothing to the other one; nothing that is handed in is changed.
func TestAnswersAreNewMemory(t *testing.T) {
	l, order := []api.Event{local(2), writes(0, 1), reads(0, 0)}, []int{2, 0, 1}
	kept := slices.Clone(l)
	least, _ := norm.Least(l, 3)
	levels, _ := norm.Levels(l, 3)
	schedule, _ := norm.Schedule(l, order)
	checkEquivalent(t, l, l, 3, true, api.OK)
	if !slices.Equal(l, kept) || !slices.Equal(order, []int{2, 0, 1}) {
		t.Fatal("something was changed")
	}
	clear(l)
	clear(order)
	if !slices.Equal(least, []int{1, 2, 0}) || !slices.EqualFunc(levels, [][]int{{1, 0}, {2}}, slices.Equal[[]int]) || !slices.Equal(schedule, []int{0, 2, 1}) {
		t.Error("what was handed in is looked at later", least, levels, schedule)
	}
	least[0], levels[0][0], schedule[0] = 99, 99, 99
	checkLeast(t, kept, 3, []int{1, 2, 0}, api.OK)
	checkLevels(t, kept, 3, [][]int{{1, 0}, {2}}, api.OK)
	checkSchedule(t, kept, []int{2, 0, 1}, []int{0, 2, 1}, api.OK)
}

// No level grows into another one.
func TestLevelsShareNothing(t *testing.T) {
	var l []api.Event
	for i := range 60 {
		l = append(l, api.Event{Thread: i * 7 % 16, Kind: i % 5, Object: i % 3})
	}
	levels, _ := norm.Levels(l, 16)
	want := make([][]int, len(levels))
	for i, level := range levels {
		want[i] = slices.Clone(level)
	}
	for _, level := range levels {
		room := level[len(level):cap(level)]
		for i := range room {
			room[i] = 99
		}
		_ = append(level, 98)
	}
	if len(levels) < 3 || !slices.EqualFunc(levels, want, slices.Equal[[]int]) {
		t.Error(levels, want)
	}
}

// The room behind the end of a list that is handed in is neither read nor written.
func TestSpareRoom(t *testing.T) {
	l := []api.Event{local(2), writes(0, 1), reads(0, 0)}
	whole := append(slices.Clone(l), writes(0, 99), writes(0, 0))
	order := []int{2, 0, 1, 7, 1}
	checkLeast(t, whole[:3], 3, []int{1, 2, 0}, api.OK)
	checkLevels(t, whole[:3], 3, [][]int{{1, 0}, {2}}, api.OK)
	checkEquivalent(t, whole[:3], l, 3, true, api.OK)
	checkEquivalent(t, l, whole[:3], 3, true, api.OK)
	checkSchedule(t, whole[:3], order[:3], []int{0, 2, 1}, api.OK)
	if !slices.Equal(whole, append(slices.Clone(l), writes(0, 99), writes(0, 0))) || !slices.Equal(order, []int{2, 0, 1, 7, 1}) {
		t.Error("spare room was written", whole, order)
	}
}
