package clock_test

import (
	"math"
	"runtime"
	"slices"
	"testing"
	"unsafe"

	"assize/api"
	"assize/clock"
)

// times tells as many of something.
func times[T any](n int, x T) []T { return slices.Repeat([]T{x}, n) }

// cloned tells clocks of their own memory.
func cloned(clocks [][]int) [][]int {
	var list [][]int
	for _, c := range clocks {
		list = append(list, slices.Clone(c))
	}
	return list
}

// P13.1: what is refused, by Clocks and by Past alike

// checkNoTrace fails if a list is taken for a trace of n threads, or refused by another error, whatever else is wrong.
func checkNoTrace(t *testing.T, l []api.Event, n int, want api.Errno) {
	t.Helper()
	checkClocks(t, l, n, nil, want)
	for _, i := range []int{0, len(l) - 1, len(l), -1, math.MinInt, math.MaxInt} {
		checkPast(t, l, n, i, nil, want)
	}
	if len(l) > 0 {
		ahead, e := l[:len(l)-1], l[len(l)-1]
		for _, clocks := range [][][]int{nil, times(len(ahead), make([]int, max(0, min(n, 16)))), times(len(ahead), []int(nil))} {
			checkNext(t, clocks, ahead, n, e, nil, want)
		}
	}
}

func TestHowManyThreads(t *testing.T) {
	for _, n := range []int{0, -1, -2, 17, 18, 1 << 16, 1 << 32, -1 << 32, 1<<32 + 2, math.MinInt, math.MaxInt} {
		for _, l := range [][]api.Event{nil, {}, {local(0)}, {local(-1)}, {local(17)}, times(2, writes(0, 0)), times(1024, local(0)), times(1025, local(0)), times(1025, local(99))} {
			checkNoTrace(t, l, n, api.ErrArg)
		}
		checkNext(t, nil, nil, n, local(0), nil, api.ErrArg)
	}
	for n := 1; n <= 16; n++ {
		last := make([]int, n)
		last[n-1] = 1
		checkClocks(t, []api.Event{writes(3, n-1)}, n, [][]int{last}, api.OK)
		checkPast(t, []api.Event{writes(3, n-1)}, n, 0, nil, api.OK)
		checkNext(t, nil, nil, n, writes(3, n-1), last, api.OK)
		checkClocks(t, nil, n, nil, api.OK)
		checkPast(t, nil, n, 0, nil, api.ErrArg)
	}
}

func TestThreadsThatAreNone(t *testing.T) {
	for _, n := range []int{1, 2, 15, 16} {
		good := []api.Event{local(n - 1), writes(0, 0), reads(0, n-1), locks(0, 0)}
		for _, th := range []int{-1, n, n + 1, -n, 1 << 32, -1 << 32, math.MinInt, math.MaxInt} {
			for at := range len(good) + 1 {
				checkNoTrace(t, slices.Insert(slices.Clone(good), at, local(th)), n, api.ErrArg)
				checkNoTrace(t, slices.Insert(slices.Clone(good), at, writes(0, th)), n, api.ErrArg)
			}
			checkNoTrace(t, append(times(1023, local(0)), local(th)), n, api.ErrArg)
			// Too many are told ahead of a thread that is none.
			checkNoTrace(t, append(times(1024, local(0)), local(th)), n, api.ErrLong)
			checkNoTrace(t, append([]api.Event{local(th)}, times(1024, local(0))...), n, api.ErrLong)
		}
	}
}

func TestTheLongest(t *testing.T) {
	for _, m := range []int{1023, 1024} {
		l, want := times(m, local(0)), make([][]int, m)
		for i := range want {
			want[i] = []int{i + 1, 0}
		}
		checkClocks(t, l, 2, want, api.OK)
		past, err := clock.Past(l, 2, m-1)
		if err != api.OK || len(past) != m-1 || past[0] != 0 || past[m-2] != m-2 {
			t.Error(short(past), err)
		}
		checkPast(t, l, 2, m, nil, api.ErrArg)
		checkNext(t, want[:m-1], l[:m-1], 2, local(0), want[m-1], api.OK)
		checkNext(t, want[:m-1], l[:m-1], 2, local(1), []int{0, 1}, api.OK)
	}
	for _, m := range []int{1025, 1026, 2048, 1 << 17} {
		checkNoTrace(t, make([]api.Event, m), 1, api.ErrLong)
		checkNoTrace(t, make([]api.Event, m), 16, api.ErrLong)
	}
	// With e behind them they are too many, though they are none alone.
	l := times(1024, local(0))
	clocks, _ := clock.Clocks(l, 1)
	checkNext(t, clocks, l, 1, local(0), nil, api.ErrLong)
	checkNext(t, clocks, l, 1, local(1), nil, api.ErrLong)
	checkNext(t, nil, l, 1, local(0), nil, api.ErrLong)
}

func TestPastOfNoEvent(t *testing.T) {
	l, _ := example()
	for _, i := range []int{5, 6, -1, -5, 1 << 32, -1 << 32, math.MinInt, math.MaxInt} {
		checkPast(t, l, 2, i, nil, api.ErrArg)
		checkPast(t, nil, 2, i, nil, api.ErrArg)
		checkPast(t, l, 1, i, nil, api.ErrArg)
	}
	for i, want := range [][]int{nil, {0}, {0, 1}, {0}, {0, 1, 2, 3}} {
		checkPast(t, l, 2, i, want, api.OK)
	}
}

// P13.1: what is told

func TestClocks(t *testing.T) {
	for _, x := range []struct {
		n    int
		l    []api.Event
		want [][]int
	}{
		{3, []api.Event{writes(0, 0), writes(0, 1), writes(0, 2)}, [][]int{{1, 0, 0}, {1, 1, 0}, {1, 1, 1}}},
		{3, []api.Event{reads(0, 0), reads(0, 1), reads(0, 2)}, [][]int{{1, 0, 0}, {0, 1, 0}, {0, 0, 1}}},
		{3, []api.Event{reads(0, 2), reads(0, 1), writes(0, 0)}, [][]int{{0, 0, 1}, {0, 1, 0}, {1, 1, 1}}},
		// By way of another thread's event, which depends on both.
		{3, []api.Event{writes(0, 0), reads(0, 1), writes(1, 1), reads(1, 2)}, [][]int{{1, 0, 0}, {1, 1, 0}, {1, 2, 0}, {1, 2, 1}}},
		{3, []api.Event{writes(1, 1), writes(0, 0), reads(0, 1), reads(1, 2)}, [][]int{{0, 1, 0}, {1, 0, 0}, {1, 2, 0}, {0, 1, 1}}},
		{2, []api.Event{locks(0, 0), unlocks(0, 0), locks(0, 1), locks(1, 0), unlocks(0, 1)}, [][]int{{1, 0}, {2, 0}, {2, 1}, {3, 0}, {2, 2}}},
		// A variable is no mutex, and another one is another one.
		{2, []api.Event{writes(0, 0), locks(0, 1), unlocks(1, 0), reads(1, 1)}, [][]int{{1, 0}, {0, 1}, {2, 0}, {0, 2}}},
		// Numbers that are no kinds touch nothing; a thread's events happen one ahead of the other whatever they are.
		{2, []api.Event{{Kind: 7}, {Thread: 1, Kind: 7}, {Kind: -1}, {Thread: 1, Kind: math.MinInt}}, [][]int{{1, 0}, {0, 1}, {2, 0}, {0, 2}}},
		{2, []api.Event{writes(-9, 0), reads(-9, 1), reads(math.MaxInt, 0), writes(math.MaxInt, 1)}, [][]int{{1, 0}, {1, 1}, {2, 0}, {2, 2}}},
		// A thread may have no events.
		{4, []api.Event{writes(0, 3), writes(0, 1), local(3)}, [][]int{{0, 0, 0, 1}, {0, 1, 0, 1}, {0, 0, 0, 2}}},
	} {
		checkClocks(t, x.l, x.n, x.want, api.OK)
		checkTrace(t, x.l, x.n)
	}
}

// P13.2

func TestAheadOfNoEvent(t *testing.T) {
	l, clocks := example()
	for _, bad := range []int{5, 6, -1, -5, 1 << 32, -1 << 32, math.MinInt, math.MaxInt} {
		for good := range l {
			checkAhead(t, clocks, l, good, bad, false, api.ErrArg)
			checkAhead(t, clocks, l, bad, good, false, api.ErrArg)
		}
		checkAhead(t, clocks, l, bad, bad, false, api.ErrArg)
		checkAhead(t, nil, nil, bad, bad, false, api.ErrArg)
	}
	checkAhead(t, nil, nil, 0, 0, false, api.ErrArg)
	checkAhead(t, [][]int{}, []api.Event{}, 0, 1, false, api.ErrArg)
}

func TestNotAsManyClocksAsEvents(t *testing.T) {
	l, clocks := example()
	for i := range l {
		for j := range l {
			checkAhead(t, clocks[:4], l, i, j, false, api.ErrArg)
			checkAhead(t, append(cloned(clocks), []int{9, 9}), l, i, j, false, api.ErrArg)
			checkAhead(t, clocks, l[:4], i, j, false, api.ErrArg)
			checkAhead(t, nil, l, i, j, false, api.ErrArg)
			checkAhead(t, clocks, nil, i, j, false, api.ErrArg)
		}
	}
}

// Both events' threads have their numbers in both clocks, or nothing is told.
func TestThreadsWithoutNumbers(t *testing.T) {
	for _, x := range []struct {
		i, j       int // the events' threads
		one, other int // how many numbers their clocks have
		want       api.Errno
	}{
		{0, 0, 1, 1, api.OK}, {0, 0, 0, 1, api.ErrArg}, {0, 0, 1, 0, api.ErrArg}, {0, 0, 0, 0, api.ErrArg},
		{1, 0, 2, 2, api.OK}, {1, 0, 1, 2, api.ErrArg}, {1, 0, 2, 1, api.ErrArg},
		{0, 1, 2, 2, api.OK}, {0, 1, 1, 2, api.ErrArg}, {0, 1, 2, 1, api.ErrArg}, {0, 1, 1, 1, api.ErrArg},
		{0, 0, 1, 9, api.OK}, {0, 1, 30, 2, api.OK}, {29, 29, 30, 30, api.OK}, {30, 29, 30, 31, api.ErrArg},
		{-1, 0, 2, 2, api.ErrArg}, {0, -1, 2, 2, api.ErrArg}, {math.MinInt, 0, 2, 2, api.ErrArg},
		{0, math.MaxInt, 2, 2, api.ErrArg}, {1 << 32, 0, 2, 2, api.ErrArg}, {0, -1 << 32, 2, 2, api.ErrArg},
	} {
		l := []api.Event{local(x.i), local(x.j)}
		clocks := [][]int{make([]int, x.one), make([]int, x.other)}
		checkAhead(t, clocks, l, 0, 1, x.want == api.OK, x.want)
		checkAhead(t, clocks, l, 1, 0, false, x.want)
		// What the events and clocks between them are is all one.
		l = []api.Event{local(x.i), local(99), local(x.j)}
		checkAhead(t, slices.Insert(clocks, 1, nil), l, 0, 2, x.want == api.OK, x.want)
	}
	checkAhead(t, [][]int{{4}}, []api.Event{local(0)}, 0, 0, false, api.OK)
	checkAhead(t, [][]int{{4}}, []api.Event{local(1)}, 0, 0, false, api.ErrArg)
}

// Any numbers may stand in clocks: those at the first one's thread are held against each other.
func TestAheadByAnyNumbers(t *testing.T) {
	numbers := []int{math.MinInt, -1 << 32, -2, -1, 0, 1, 2, 1 << 32, math.MaxInt}
	for _, a := range numbers {
		for _, b := range numbers {
			for _, e := range []api.Event{local(1), writes(0, 1), {Thread: 1, Kind: 99, Object: -4}} {
				l := []api.Event{e, reads(1, 0)}
				checkAhead(t, [][]int{{7, a}, {3, b}}, l, 0, 1, a <= b, api.OK)
				checkAhead(t, [][]int{{7, a}, {3, b}}, l, 1, 0, false, api.OK)
				checkAhead(t, [][]int{{7, a}, {3, b}}, l, 0, 0, false, api.OK)
			}
		}
	}
}

// Ahead is asked of lists of any length.
func TestAheadInLongLists(t *testing.T) {
	l, clocks := times(5000, local(0)), times(5000, []int{3})
	checkAhead(t, clocks, l, 4998, 4999, true, api.OK)
	checkAhead(t, clocks, l, 4999, 4998, false, api.OK)
	checkAhead(t, clocks, l, 4999, 5000, false, api.ErrArg)
}

// P13.3

func TestNextIsRefused(t *testing.T) {
	l, clocks := example()
	checkNext(t, clocks, l, 2, local(0), []int{3, 0}, api.OK)
	for _, wrong := range [][][]int{nil, {}, clocks[:4], append(cloned(clocks), []int{0, 0})} {
		checkNext(t, wrong, l, 2, local(0), nil, api.ErrArg)
	}
	for at := range clocks {
		for _, c := range [][]int{nil, {}, {1}, {1, 2, 3}, make([]int, 16)} {
			wrong := cloned(clocks)
			wrong[at] = c
			// One on which the event does not depend is looked at, too.
			checkNext(t, wrong, l, 2, local(0), nil, api.ErrArg)
			checkNext(t, wrong, l, 2, writes(1, 1), nil, api.ErrArg)
		}
	}
	checkNext(t, [][]int{{0}}, nil, 1, local(0), nil, api.ErrArg)
	checkNext(t, clocks, l, 3, local(0), nil, api.ErrArg)
	for _, th := range []int{-1, 2, 1 << 32, math.MinInt, math.MaxInt} {
		checkNext(t, clocks, l, 2, local(th), nil, api.ErrArg)
		checkNext(t, nil, nil, 2, local(th), nil, api.ErrArg)
	}
}

// The clock is worked out of those that are handed in, be they the trace's or not.
func TestNextOfAnyClocks(t *testing.T) {
	l := []api.Event{writes(0, 0), writes(1, 1), reads(0, 2), writes(0, 0)}
	for _, x := range []struct {
		clocks [][]int
		e      api.Event
		want   []int
	}{
		{[][]int{{7, 1, 9}, {50, 50, 50}, {8, 2, 3}, {5, 4, 6}}, writes(0, 1), []int{50, 2, 50}},
		{[][]int{{7, 1, 9}, {50, 50, 50}, {8, 2, 3}, {5, 4, 6}}, writes(0, 2), []int{8, 4, 2}},
		{[][]int{{7, 1, 9}, {50, 50, 50}, {8, 2, 3}, {5, 4, 6}}, reads(0, 2), []int{8, 4, 2}},
		// That of thread 2 only reads.
		{[][]int{{7, 1, 9}, {50, 50, 50}, {80, 80, 80}, {5, 4, 6}}, reads(0, 0), []int{3, 4, 9}},
		{[][]int{{7, 1, 9}, {50, 60, 70}, {80, 80, 80}, {5, 4, 6}}, local(1), []int{50, 2, 70}},
		{[][]int{{7, 1, 9}, {50, 60, 70}, {80, 80, 80}, {5, 4, 6}}, unlocks(0, 2), []int{80, 80, 2}},
		// The greatest of numbers below 0 is below 0.
		{[][]int{{-7, -1, -9}, {50, 50, 50}, {-8, -2, -3}, {-5, -4, -6}}, writes(0, 2), []int{-5, -1, 2}},
		{[][]int{{-7, -1, -9}, {50, 50, 50}, {-8, -2, -3}, {-5, -4, -6}}, writes(0, 0), []int{3, -1, -3}},
		{[][]int{{0, 0, 0}, {math.MinInt, math.MinInt, math.MaxInt}, {0, 0, 0}, {9, 9, 9}}, reads(1, 1), []int{math.MinInt, 2, math.MaxInt}},
	} {
		checkNext(t, x.clocks, l, 3, x.e, x.want, api.OK)
	}
	// Of those on which it does not depend it has nothing.
	checkNext(t, [][]int{{9, 9, 9}, {-9, -9, -9}}, l[:2], 3, reads(7, 2), []int{0, 0, 1}, api.OK)
	checkNext(t, nil, nil, 3, reads(7, 2), []int{0, 0, 1}, api.OK)
	checkNext(t, nil, nil, 3, api.Event{Thread: 1, Kind: -5, Object: -5}, []int{0, 1, 0}, api.OK)
}

// Rule 4

// span tells where a list's memory begins and ends, with its spare room.
func span[T any](l []T) (uintptr, uintptr) {
	var x T
	from := uintptr(unsafe.Pointer(unsafe.SliceData(l)))
	return from, from + uintptr(cap(l))*unsafe.Sizeof(x)
}

// overlap tells whether two lists have memory in common.
func overlap[A, B any](a []A, b []B) bool {
	from, to := span(a)
	first, last := span(b)
	defer runtime.KeepAlive(a)
	defer runtime.KeepAlive(b)
	return from < last && first < to
}

// Clocks have one memory behind them, but none reaches into another one, its spare room neither.
func TestNoTwoClocksOverlap(t *testing.T) {
	for _, n := range []int{1, 2, 3, 16} {
		l := times(40, writes(0, n-1))
		clocks, err := clock.Clocks(l, n)
		if err != api.OK || len(clocks) != 40 {
			t.Fatal(err)
		}
		want := cloned(clocks)
		for i, a := range clocks {
			if cap(a) != n {
				t.Error("there is spare room", cap(a))
			}
			for _, b := range clocks[:i] {
				if overlap(a, b) {
					t.Error("two clocks overlap")
				}
			}
			if i > 0 {
				last, next := &clocks[i-1][n-1], &a[0]
				if uintptr(unsafe.Pointer(next))-uintptr(unsafe.Pointer(last)) != unsafe.Sizeof(0) {
					t.Error("there are two memories behind clocks")
				}
			}
		}
		for _, c := range clocks {
			c = append(c, 99)
			c[0] = 99
		}
		if !sameClocks(clocks, want) {
			t.Error("one clock grew into another one")
		}
	}
}

// What is done to an answer, or to what was handed in, is nothing to the other one; nothing that is handed in is changed.
func TestAnswersAreNewMemory(t *testing.T) {
	l, want := example()
	kept := slices.Clone(l)
	clocks, _ := clock.Clocks(l, 2)
	handed := cloned(clocks)
	past, _ := clock.Past(l, 2, 4)
	next, _ := clock.Next(handed, l, 2, writes(0, 1))
	checkAhead(t, handed, l, 0, 4, true, api.OK)
	if !slices.Equal(l, kept) || !sameClocks(handed, want) {
		t.Fatal("something was changed")
	}
	for _, c := range handed {
		if overlap(next, c) {
			t.Error("memory is shared")
		}
		c[0], c[1] = 77, 77
	}
	for i := range l {
		l[i] = local(9)
	}
	if !sameClocks(clocks, want) || !slices.Equal(past, []int{0, 1, 2, 3}) || !slices.Equal(next, []int{2, 4}) {
		t.Error("what was handed in is looked at later", clocks, past, next)
	}
	clocks[0][0], clocks[4], past[0], next[0] = 99, nil, 99, 99
	checkClocks(t, kept, 2, want, api.OK)
	checkPast(t, kept, 2, 4, []int{0, 1, 2, 3}, api.OK)
	checkNext(t, want, kept, 2, writes(0, 1), []int{2, 4}, api.OK)
}

// The room behind the end of a list that is handed in is neither read, nor written, nor handed out.
func TestSpareRoom(t *testing.T) {
	l, want := example()
	whole := append(slices.Clone(l), writes(0, 99), writes(1, 99))
	handed := append(cloned(want), []int{99, 99}, nil)
	for i, c := range handed[:5] {
		handed[i] = append(c, 99, 99)[:2]
	}
	checkClocks(t, whole[:5], 2, want, api.OK)
	checkPast(t, whole[:5], 2, 4, []int{0, 1, 2, 3}, api.OK)
	checkPast(t, whole[:5], 2, 5, nil, api.ErrArg)
	checkAhead(t, handed[:5], whole[:5], 3, 4, true, api.OK)
	checkAhead(t, handed[:5], whole[:5], 3, 5, false, api.ErrArg)
	checkAhead(t, [][]int{handed[0][:1], handed[1]}, whole[:2], 0, 1, false, api.ErrArg)
	checkNext(t, handed[:5], whole[:5], 2, writes(0, 1), []int{2, 4}, api.OK)
	if !slices.Equal(whole, append(slices.Clone(l), writes(0, 99), writes(1, 99))) {
		t.Error("spare room was written", whole)
	}
	for i, c := range handed[:5] {
		if !slices.Equal(c[:4], append(slices.Clone(want[i]), 99, 99)) {
			t.Error("spare room was written", c[:4])
		}
	}
	next, _ := clock.Next(handed[:5], whole[:5], 2, writes(0, 1))
	past, _ := clock.Past(whole[:5], 2, 4)
	if slices.Contains(next[:cap(next)], 99) || slices.Contains(past[:cap(past)], 99) {
		t.Error("spare room was handed out")
	}
}
