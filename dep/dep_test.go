package dep_test

import (
	"bytes"
	"math"
	"runtime"
	"slices"
	"testing"
	"unsafe"

	"assize/api"
	"assize/code"
	"assize/dep"
)

// times tells as many of something.
func times[T any](n int, x T) []T { return slices.Repeat([]T{x}, n) }

// P12.1

// isOfMutex and isOfVariable are the chapter's words.
func isOfMutex(e api.Event) bool { return e.Kind == api.Locks || e.Kind == api.Unlocks }

func isOfVariable(e api.Event) bool { return e.Kind == api.Reads || e.Kind == api.Writes }

// depend tells by the chapter's words whether two events depend on one another.
func depend(a, b api.Event) bool {
	if a.Thread == b.Thread {
		return true
	}
	if isOfMutex(a) && isOfMutex(b) {
		return a.Object == b.Object
	}
	if isOfVariable(a) && isOfVariable(b) {
		return a.Object == b.Object && (a.Kind == api.Writes || b.Kind == api.Writes)
	}
	return false
}

// The five kinds, held against one another: of unlike threads and one object.
func TestKinds(t *testing.T) {
	list := [][]bool{
		api.Local:   {false, false, false, false, false},
		api.Reads:   {false, false, true, false, false},
		api.Writes:  {false, true, true, false, false},
		api.Locks:   {false, false, false, true, true},
		api.Unlocks: {false, false, false, true, true},
	}
	for a, row := range list {
		for b, want := range row {
			for _, object := range []int{0, 1, 7, 31, -1, math.MaxInt, math.MinInt} {
				checkDepends(t, api.Event{Thread: 0, Kind: a, Object: object}, api.Event{Thread: 1, Kind: b, Object: object}, want)
				checkDepends(t, api.Event{Thread: 3, Kind: a, Object: object}, api.Event{Thread: 3, Kind: b, Object: object}, true)
				checkDepends(t, api.Event{Thread: 0, Kind: a, Object: object}, api.Event{Thread: 1, Kind: b, Object: object ^ 1}, false)
				checkDepends(t, api.Event{Thread: 3, Kind: a, Object: object}, api.Event{Thread: 3, Kind: b, Object: object ^ 1}, true)
			}
		}
	}
}

// Any numbers may stand in an event: those that are no kinds touch nothing, but a thread is a thread.
func TestAnyEvents(t *testing.T) {
	kinds := []int{math.MinInt, math.MinInt + 2, -1 << 32, -257, -254, -64, -9, -8, 8, 9, 15, 16, 31, 32, 33, 34, 63, 64, 65, 66, 67, 68, 255, 256, 257, 258, 259, 260, 1 << 16, 1<<32 + 2, 1<<32 + 3, math.MaxInt - 1, math.MaxInt}
	for k := -5; k <= 7; k++ {
		kinds = append(kinds, k)
	}
	var events []api.Event
	for _, th := range []int{0, 1, -1, 16, math.MinInt, math.MaxInt} {
		for _, k := range kinds {
			for _, object := range []int{0, 1, -1, 1 << 32, math.MinInt, math.MaxInt} {
				events = append(events, api.Event{Thread: th, Kind: k, Object: object})
			}
		}
	}
	for _, a := range events {
		for _, b := range events {
			if got, want := dep.Depends(a, b), depend(a, b); got != want {
				t.Fatalf("Depends(%v, %v) = %v", a, b, got)
			}
		}
	}
}

// P12.4: Depends goes both ways, and an event depends on itself.
func TestDependsGoesBothWays(t *testing.T) {
	var events []api.Event
	for th := range 3 {
		for k := -1; k <= 5; k++ {
			for object := range 3 {
				events = append(events, api.Event{Thread: th, Kind: k, Object: object})
			}
		}
	}
	for _, a := range events {
		for _, b := range events {
			if dep.Depends(a, b) != dep.Depends(b, a) {
				t.Errorf("%v and %v", a, b)
			}
		}
		if !dep.Depends(a, a) {
			t.Error(a)
		}
	}
}

// P12.2: what is refused

// spoiled tells codes that may not be, one and more for each of code's errors.
func spoiled() []api.Code {
	set := api.Node{Code: []api.Instr{{Op: api.Fetch}}, Kind: api.SetShared, Next: 1}
	return []api.Code{
		{}, {Bodies: times(17, api.Body{})}, {Shared: times(33, number(0)), Bodies: []api.Body{{}}},
		{Mutexes: -1, Bodies: []api.Body{{}}}, {Bodies: []api.Body{{Stack: 65}}}, {Shared: []api.Value{{}}, Bodies: []api.Body{{}}},
		{Bodies: []api.Body{{Nodes: []api.Node{{Kind: api.Pass, Next: 2}}}}},
		{Bodies: []api.Body{{Stack: 1, Nodes: []api.Node{{Code: []api.Instr{{Op: api.Lit, Lit: number(1)}}, Kind: api.Demand}}}}},
		{Shared: []api.Value{number(0)}, Bodies: []api.Body{{Stack: 1, Nodes: []api.Node{set}}}},
	}
}

// long is a schedule of more steps than are played.
func long() []int { return make([]int, api.MaxEvents+1) }

func TestWhatMayNotBePlayed(t *testing.T) {
	seen := map[api.Errno]int{}
	for _, c := range spoiled() {
		seen[code.Check(c)]++
		for _, work := range []int{-1, 0, 1, 100, 65536, 65537} {
			checkNotPlayed(t, c, work, nil, api.ErrArg)
			checkNotPlayed(t, c, work, []int{0}, api.ErrArg)
			checkNotPlayed(t, c, work, []int{99}, api.ErrArg)
			checkNotPlayed(t, c, work, long(), api.ErrArg)
		}
	}
	if seen[api.OK] != 0 || len(seen) != 4 {
		t.Error(seen)
	}
	good := compiled(t, example)
	for _, work := range []int{0, -1, 65537, 1 << 40, math.MinInt, math.MaxInt} {
		checkNotPlayed(t, good, work, nil, api.ErrArg)
		checkNotPlayed(t, good, work, []int{-1}, api.ErrArg)
		checkNotPlayed(t, good, work, long(), api.ErrArg)
	}
	for _, work := range []int{1, 2, 65535, 65536} {
		checkPlayed(t, good, work, []int{1}, locks(0, 1))
	}
}

func TestTheLongest(t *testing.T) {
	turn := api.Body{Nodes: []api.Node{{Kind: api.Pass}}}
	c := api.Code{Bodies: times(2, turn)}
	for _, n := range []int{1, 2, 1022, 1023, 1024} {
		schedule, want := make([]int, n), make([]api.Event, n)
		for i := range n {
			schedule[i] = i & 1
			want[i] = local(i & 1)
		}
		m := checkPlayed(t, c, 65536, schedule, want...)
		if m.Work(0)+m.Work(1) != n {
			t.Error(n, m.Work(0), m.Work(1))
		}
	}
	for _, n := range []int{1025, 1026, 2048, 1 << 17} {
		checkNotPlayed(t, c, 65536, make([]int, n), api.ErrLong)
		// Ahead of a step that is not made, whichever it is.
		checkNotPlayed(t, c, 65536, times(n, 2), api.ErrLong)
		checkNotPlayed(t, c, 1, make([]int, n), api.ErrLong)
	}
	checkNotPlayed(t, c, 65536, append(make([]int, 1023), 2), api.ErrState)
	// The last one of these ends the machine, so that there is none behind it.
	checkEnd(t, checkPlayed(t, c, 1023, make([]int, 1024), times(1024, local(0))...), api.Overrun, 0)
	checkNotPlayed(t, c, 1022, make([]int, 1024), api.ErrState)
}

// A step is not made, wherever it stands.
func TestStepsThatAreNotMade(t *testing.T) {
	c := compiled(t, "mutex m; thread a { lock m; skip; unlock m; } thread b { lock m; unlock m; } thread c { skip; }")
	good := []int{0, 0, 2, 0, 1, 1}
	checkEnd(t, checkPlayed(t, c, 9, good, locks(0, 0), local(0), local(2), unlocks(0, 0), locks(0, 1), unlocks(0, 1)), api.Done, -1)
	for at := range len(good) + 1 {
		for _, th := range []int{-1, 3, 16, 1 << 32, math.MinInt, math.MaxInt} {
			checkNotPlayed(t, c, 9, slices.Insert(slices.Clone(good), at, th), api.ErrState)
			checkNotPlayed(t, c, 9, append(slices.Clone(good[:at]), th), api.ErrState)
		}
	}
	// One that has ended; one whose mutex another one holds, or itself; behind the end.
	checkNotPlayed(t, c, 9, []int{2, 2}, api.ErrState)
	checkNotPlayed(t, c, 9, []int{0, 1}, api.ErrState)
	checkNotPlayed(t, c, 9, []int{1, 0, 1}, api.ErrState)
	checkNotPlayed(t, c, 9, append(slices.Clone(good), 0), api.ErrState)
	checkNotPlayed(t, compiled(t, "mutex m; thread a { lock m; lock m; } thread b { skip; }"), 9, []int{0, 0}, api.ErrState)
}

// Steps that end the machine are made, each with its event; behind them none is, whoever could have gone on.
func TestEnds(t *testing.T) {
	const rest = " } thread b { skip; }"
	for _, x := range []struct {
		text     string
		work     int
		schedule []int
		last     api.Event
		how, who int
	}{
		{"shared x int; thread a { assert x == 1;" + rest, 9, []int{0}, reads(0, 0), api.Failed, 0},
		{"shared x int; thread a { x = 1 / 0;" + rest, 9, []int{0}, writes(0, 0), api.Trapped, 0},
		{"mutex l; mutex m; thread a { unlock m;" + rest, 9, []int{0}, unlocks(1, 0), api.Trapped, 0},
		{"mutex m; thread a { skip; lock m;" + rest, 1, []int{0, 0}, locks(0, 0), api.Overrun, 0},
		{"shared x int; shared y int; thread a { y = 1 + 2 + 3;" + rest, 3, []int{0}, writes(1, 0), api.Overrun, 0},
		{"mutex m; thread a { lock m; lock m;" + rest, 9, []int{0, 1}, local(1), api.Deadlock, -1},
		{"mutex m; thread a { lock m;" + rest, 9, []int{1, 0}, locks(0, 0), api.Done, -1},
	} {
		c := compiled(t, x.text)
		events, m, err := dep.Play(c, x.work, x.schedule)
		if err != api.OK || len(events) != len(x.schedule) || events[len(events)-1] != x.last {
			t.Error(x.text, events, err)
			continue
		}
		checkEnd(t, m, x.how, x.who)
		for th := range 2 {
			checkNotPlayed(t, c, x.work, append(slices.Clone(x.schedule), th), api.ErrState)
		}
	}
}

func TestNoSteps(t *testing.T) {
	c := compiled(t, example)
	for _, none := range [][]int{nil, {}, make([]int, 0, 5)} {
		checkEnd(t, checkPlayed(t, c, 9, none), api.Running, -1)
		// One that ends at its beginning is played, too, as nothing is to be done.
		checkEnd(t, checkPlayed(t, api.Code{Bodies: times(2, api.Body{})}, 1, none), api.Done, -1)
	}
	checkNotPlayed(t, api.Code{Bodies: times(2, api.Body{})}, 1, []int{0}, api.ErrState)
}

// Events of all kinds, with their objects and threads.
func TestEvents(t *testing.T) {
	c := compiled(t, `shared x int; shared y int; mutex m; mutex n;
		thread a { local i int; i = y; y = i; lock n; unlock n; assert x == 0; } thread b { skip; } thread c { local j int; lock m; x = 2; while j < y { j = j + 1; } }`)
	m := checkPlayed(t, c, 99, []int{2, 0, 1, 2, 0, 0, 2, 0, 0},
		locks(0, 2), reads(1, 0), local(1), writes(0, 2), writes(1, 0), locks(1, 0), reads(1, 2), unlocks(1, 0), reads(0, 0))
	checkEnd(t, m, api.Failed, 0)
	if !slices.Equal(m.Held(), []int{2, -1}) || !slices.Equal(m.Shared(), []api.Value{number(2), number(0)}) {
		t.Error(m.Held(), m.Shared())
	}
}

// The machine goes on as one that was let step by hand, and each call answers one of its own.
func TestMachinesGoOn(t *testing.T) {
	c := compiled(t, example)
	m := checkPlayed(t, c, 99, []int{1, 1, 0}, locks(0, 1), reads(0, 1), writes(0, 0))
	other := checkPlayed(t, c, 99, []int{1, 1, 0}, locks(0, 1), reads(0, 1), writes(0, 0))
	if e, n, err := m.Step(1); e != local(1) || n != 4 || err != api.OK {
		t.Error(e, n, err)
	}
	checkEnd(t, m, api.Deadlock, -1)
	checkEnd(t, other, api.Running, -1)
	checkEnd(t, other.Clone(), api.Running, -1)
	if !bytes.Equal(other.State(), stepped(t, c, 99, []int{1, 1, 0})) {
		t.Error("one machine's step is another one's")
	}
}

// P12.3

func TestSwapped(t *testing.T) {
	for n := range 7 {
		var l []int
		for i := range n {
			l = append(l, 10-i)
		}
		for at := -3; at <= n+3; at++ {
			if at < 0 || at+1 >= n {
				checkSwapped(t, l, at, nil, api.ErrArg)
				continue
			}
			want := slices.Concat(l[:at], []int{l[at+1], l[at]}, l[at+2:])
			checkSwapped(t, l, at, want, api.OK)
			checkSwapped(t, want, at, l, api.OK)
		}
		for _, at := range []int{math.MinInt, math.MinInt + 1, math.MaxInt - 1, math.MaxInt, -1 << 32, 1 << 32} {
			checkSwapped(t, l, at, nil, api.ErrArg)
		}
	}
	checkSwapped(t, nil, 0, nil, api.ErrArg)
	checkSwapped(t, nil, -1, nil, api.ErrArg)
	checkSwapped(t, nil, -2, nil, api.ErrArg)
}

// A list of any numbers, of any length: it need not be one that is played.
func TestSwappedOfAnyList(t *testing.T) {
	checkSwapped(t, []int{math.MinInt, math.MaxInt}, 0, []int{math.MaxInt, math.MinInt}, api.OK)
	checkSwapped(t, []int{4, 4, -9}, 0, []int{4, 4, -9}, api.OK)
	l := make([]int, 5000)
	for i := range l {
		l[i] = -i
	}
	want := slices.Clone(l)
	want[4998], want[4999] = -4999, -4998
	checkSwapped(t, l, 4998, want, api.OK)
	checkSwapped(t, l, 4999, nil, api.ErrArg)
}

// P12.4: what depends is told so for a reason: changed about it comes to something else, or is not played.
func TestWhatDependsMatters(t *testing.T) {
	for _, x := range []struct {
		text  string
		ahead []int
		pair  []api.Event
		err   api.Errno
	}{
		{"shared x int; thread a { x = 1; } thread b { x = 2; }", nil, []api.Event{writes(0, 0), writes(0, 1)}, api.OK},
		{"shared x int; thread a { x = 1; } thread b { local i int; i = x; }", nil, []api.Event{writes(0, 0), reads(0, 1)}, api.OK},
		{"mutex m; thread a { lock m; } thread b { lock m; unlock m; }", []int{1}, []api.Event{unlocks(0, 1), locks(0, 0)}, api.ErrState},
		{"mutex m; thread a { lock m; unlock m; } thread b { skip; unlock m; }", []int{1, 0}, []api.Event{unlocks(0, 0), unlocks(0, 1)}, api.ErrState},
		{"thread a { skip; assert false; } thread b { skip; }", nil, []api.Event{local(0), local(0)}, api.OK},
	} {
		c := compiled(t, x.text)
		schedule := append(slices.Clone(x.ahead), x.pair[0].Thread, x.pair[1].Thread)
		events, m, err := dep.Play(c, 99, schedule)
		if err != api.OK || !slices.Equal(events[len(x.ahead):], x.pair) || !dep.Depends(x.pair[0], x.pair[1]) {
			t.Error(x.text, events, err)
			continue
		}
		about, _ := dep.Swapped(schedule, len(x.ahead))
		events, other, err := dep.Play(c, 99, about)
		if err != x.err {
			t.Error(x.text, err)
		}
		if own := x.pair[0].Thread == x.pair[1].Thread; err == api.OK && !own && bytes.Equal(m.State(), other.State()) {
			t.Error(x.text, "comes to the same")
		} else if own && (events[0] != x.pair[0] || !slices.Equal(about, schedule)) {
			t.Error(x.text, "has steps of one thread in another order")
		}
	}
}

// Rule 4

// What is done to what was handed in, or to an answer, later on is nothing to a call or to a machine.
func TestAnswersAreNewMemory(t *testing.T) {
	c := compiled(t, "shared x int = 1; mutex m; thread a { local i int; i = x; lock m; x = i + 4; }")
	kept, schedule := code.Copy(c), []int{0, 0, 5}
	events, m, err := dep.Play(c, 99, schedule[:2])
	if err != api.OK || !code.Same(c, kept) || !slices.Equal(schedule, []int{0, 0, 5}) {
		t.Fatal(err, "or something was changed")
	}
	c.Shared[0], c.Bodies[0].Locals[0], c.Bodies[0].Nodes[2].Code[1].Lit = number(50), number(50), number(50)
	c.Bodies[0].Nodes[2].Kind, c.Bodies[0].Nodes = api.Pass, nil
	schedule[0], schedule[1] = 7, 7
	events[0], events[1] = local(9), local(9)
	if e, _, err := m.Step(0); e != writes(0, 0) || err != api.OK || !slices.Equal(m.Shared(), []api.Value{number(5)}) {
		t.Error(e, err, m.Shared())
	}
	checkEnd(t, m, api.Done, -1)
	checkPlayed(t, kept, 99, []int{0, 0}, reads(0, 0), locks(0, 0))
	l := []int{1, 2, 3}
	about, _ := dep.Swapped(l, 0)
	about[2] = 9
	if !slices.Equal(l, []int{1, 2, 3}) {
		t.Error("the list was changed", l)
	}
	l[1] = 8
	if !slices.Equal(about, []int{2, 1, 9}) {
		t.Error("the list is looked at later", about)
	}
}

// span tells where a list's memory begins and ends, with its spare room.
func span[T any](l []T) (uintptr, uintptr) {
	var x T
	from := uintptr(unsafe.Pointer(unsafe.SliceData(l)))
	return from, from + uintptr(cap(l))*unsafe.Sizeof(x)
}

// The room behind the end of a list that is handed in is neither read, nor written, nor handed out.
func TestSpareRoom(t *testing.T) {
	whole := []int{1, 2, 3, 99, 99}
	l := whole[:3]
	for at := range 2 {
		about, err := dep.Swapped(l, at)
		from, to := span(about)
		if first, last := span(whole); err != api.OK || from < last && first < to {
			t.Error("memory is shared", err)
		}
		if slices.Contains(about[:cap(about)], 99) {
			t.Error("spare room was handed out")
		}
		runtime.KeepAlive(about)
	}
	checkSwapped(t, l, 2, nil, api.ErrArg)
	if !slices.Equal(whole, []int{1, 2, 3, 99, 99}) {
		t.Error("spare room was written", whole)
	}
	c := compiled(t, example)
	c.Shared = append(c.Shared, number(99))[:1]
	schedule := []int{1, 1, 99}
	events, m, err := dep.Play(c, 99, schedule[:2])
	if err != api.OK || len(events) != 2 || schedule[2] != 99 || c.Shared[:2][1] != number(99) {
		t.Error(events, err, schedule)
	}
	if spare := events[2:cap(events)]; slices.ContainsFunc(spare, func(e api.Event) bool { return e != api.Event{} }) {
		t.Error("spare room is not empty")
	}
	if shared := m.Shared(); slices.Contains(shared[:cap(shared)], number(99)) {
		t.Error("spare room was handed out")
	}
}
