package norm_test

import (
	"bytes"
	"fmt"
	"math/rand"
	"slices"
	"testing"

	"assize/api"
	"assize/compile"
	"assize/dep"
	"assize/norm"
	"assize/sample"
	"assize/vm"
)

// happens tells by the words of chapter 13 what happens ahead of what: of two events, the later one's row, at the earlier one's place.
func happens(l []api.Event) [][]bool {
	rows := make([][]bool, len(l))
	for j := range l {
		rows[j] = make([]bool, len(l))
		for i := j - 1; i >= 0; i-- {
			rows[j][i] = dep.Depends(l[i], l[j])
			for k := i + 1; k < j && !rows[j][i]; k++ {
				rows[j][i] = rows[k][i] && rows[j][k]
			}
		}
	}
	return rows
}

// leastByWords tells a trace's least form by the chapter's words.
func leastByWords(l []api.Event) []int {
	rows := happens(l)
	in := make([]bool, len(l))
	may := func(j int) bool {
		for i, ahead := range rows[j] {
			if ahead && !in[i] {
				return false
			}
		}
		return !in[j]
	}
	var order []int
	for range l {
		next := -1
		for j := range l {
			if may(j) && (next < 0 || l[j].Thread < l[next].Thread) {
				next = j
			}
		}
		in[next] = true
		order = append(order, next)
	}
	return order
}

// levelsByWords tells a trace's levels by the chapter's words.
func levelsByWords(l []api.Event) [][]int {
	var levels [][]int
	number := make([]int, len(l))
	for j, row := range happens(l) {
		for i, ahead := range row {
			if ahead {
				number[j] = max(number[j], number[i]+1)
			}
		}
		if number[j] == len(levels) {
			levels = append(levels, nil)
		}
		levels[number[j]] = append(levels[number[j]], j)
	}
	for _, level := range levels {
		slices.SortFunc(level, func(i, j int) int { return l[i].Thread - l[j].Thread })
	}
	return levels
}

// inOrder tells a trace's events in an order.
func inOrder(l []api.Event, order []int) []api.Event {
	var events []api.Event
	for _, i := range order {
		events = append(events, l[i])
	}
	return events
}

// threads tells the threads of events.
func threads(l []api.Event) []int {
	var list []int
	for _, e := range l {
		list = append(list, e.Thread)
	}
	return list
}

// eventsOf tells the events of each level.
func eventsOf(l []api.Event, levels [][]int) [][]api.Event {
	var lists [][]api.Event
	for _, level := range levels {
		lists = append(lists, inOrder(l, level))
	}
	return lists
}

// changedAbout calls f with each trace that comes of one by changing two neighbours about that do not depend on one another.
func changedAbout(l []api.Event, f func(other []api.Event)) {
	for at := range max(0, len(l)-1) {
		if !dep.Depends(l[at], l[at+1]) {
			other := slices.Clone(l)
			other[at], other[at+1] = other[at+1], other[at]
			f(other)
		}
	}
}

// class tells by the chapter's words all traces that are equivalent to one: those that come of it by changing about, again and again. They are told by their texts.
func class(l []api.Event) map[string][]api.Event {
	all := map[string][]api.Event{}
	work := [][]api.Event{l}
	for len(work) > 0 {
		next := work[0]
		work = work[1:]
		if text := fmt.Sprint(next); all[text] == nil {
			all[text] = append([]api.Event{}, next...)
			changedAbout(next, func(other []api.Event) { work = append(work, other) })
		}
	}
	return all
}

// checkTrace holds all that is told of a trace against the chapter's words, and what follows of it.
func checkTrace(t *testing.T, l []api.Event, n int) {
	t.Helper()
	order, levels := leastByWords(l), levelsByWords(l)
	checkLeast(t, l, n, order, api.OK)
	checkLevels(t, l, n, levels, api.OK)
	least, laid := inOrder(l, order), inOrder(l, slices.Concat(levels...))
	checkSchedule(t, l, order, threads(least), api.OK)
	for _, other := range [][]api.Event{l, least, laid} {
		checkSame(t, l, other, n)
	}
	changedAbout(l, func(other []api.Event) { checkSame(t, l, other, n) })
	checkLeast(t, least, n, rising(len(l)), api.OK)
	for _, level := range levels {
		for i := 1; i < len(level); i++ {
			if l[level[i-1]].Thread == l[level[i]].Thread {
				t.Fatalf("%s: two of one thread at the level %v", short(l), level)
			}
		}
	}
}

// checkSame fails if two equivalent traces are told not to be, have other least forms or other levels, or the one is ahead of the other one's least form, thread by thread.
func checkSame(t *testing.T, a, b []api.Event, n int) {
	t.Helper()
	checkEquivalent(t, a, b, n, true, api.OK)
	checkEquivalent(t, b, a, n, true, api.OK)
	one, _ := norm.Least(a, n)
	other, _ := norm.Least(b, n)
	least := inOrder(a, one)
	if !slices.Equal(least, inOrder(b, other)) || slices.Compare(threads(b), threads(least)) < 0 {
		t.Fatalf("the least forms of %s and %s: %s, %s", short(a), short(b), short(one), short(other))
	}
	high, _ := norm.Levels(a, n)
	wide, _ := norm.Levels(b, n)
	if !slices.EqualFunc(eventsOf(a, high), eventsOf(b, wide), slices.Equal[[]api.Event]) {
		t.Fatalf("the levels of %s and %s: %s, %s", short(a), short(b), short(high), short(wide))
	}
}

// forms tells of how traces' forms, as texts, go with the traces that are equivalent, which are told by the first one of their texts.
type forms struct{ least, levels map[string]string }

// checkClass fails if a trace that is equivalent to this one has another least form or other levels, or one that is not has the same.
func (f forms) checkClass(t *testing.T, l []api.Event, n int) {
	t.Helper()
	all := class(l)
	first := fmt.Sprint(l)
	for text := range all {
		first = min(first, text)
	}
	order, _ := norm.Least(l, n)
	levels, _ := norm.Levels(l, n)
	least := inOrder(l, order)
	for _, other := range all {
		if slices.Compare(threads(other), threads(least)) < 0 {
			t.Fatalf("%v is ahead of %v, the least form of %v", other, least, l)
		}
	}
	if all[fmt.Sprint(least)] == nil || all[fmt.Sprint(inOrder(l, slices.Concat(levels...)))] == nil {
		t.Fatalf("%v: its least form, or its levels, are not equivalent", l)
	}
	checkKnown(t, f.least, fmt.Sprint(least), first)
	checkKnown(t, f.levels, fmt.Sprint(eventsOf(l, levels)), first)
}

// checkKnown fails if a form was seen with another trace than the first one of those that are equivalent.
func checkKnown(t *testing.T, seen map[string]string, form, first string) {
	t.Helper()
	if other, was := seen[form]; was && other != first {
		t.Fatalf("%s and %s have the form %s", first, other, form)
	}
	seen[form] = first
}

// eachTrace calls f with all traces of these events, of at most so many, and tells how many there are.
func eachTrace(letters []api.Event, most int, f func(l []api.Event)) int {
	count := 0
	var each func(l []api.Event)
	each = func(l []api.Event) {
		f(l)
		count++
		for _, e := range letters {
			if len(l) < most {
				each(append(slices.Clone(l), e))
			}
		}
	}
	each(nil)
	return count
}

// All traces of up to three events of three threads of all kinds.
func TestEveryShortTrace(t *testing.T) {
	var letters []api.Event
	for th := range 3 {
		letters = append(letters, local(th), reads(0, th), writes(0, th), writes(1, th), locks(0, th), unlocks(0, th))
	}
	seen := forms{map[string]string{}, map[string]string{}}
	count := eachTrace(letters, 3, func(l []api.Event) {
		checkTrace(t, l, 3)
		seen.checkClass(t, l, 3)
	})
	if count != 1+18+18*18+18*18*18 || len(seen.least) != len(seen.levels) || len(seen.least) > count*2/3 {
		t.Error(count, len(seen.least), len(seen.levels))
	}
}

// All traces of up to five events of three threads, of few kinds.
func TestEveryTraceOfFewKinds(t *testing.T) {
	letters := []api.Event{local(0), writes(0, 0), local(1), reads(0, 1), reads(0, 2), writes(0, 2)}
	seen := forms{map[string]string{}, map[string]string{}}
	eachTrace(letters, 5, func(l []api.Event) {
		checkTrace(t, l, 3)
		seen.checkClass(t, l, 3)
	})
	if len(seen.least) < 1000 || len(seen.least) != len(seen.levels) {
		t.Error(len(seen.least), len(seen.levels))
	}
}

// All pairs of traces of up to three events, held against the chapter's words.
func TestEveryPairOfTraces(t *testing.T) {
	letters := []api.Event{local(0), writes(0, 0), reads(0, 1), writes(0, 1), locks(0, 0), locks(0, 1)}
	var all [][]api.Event
	eachTrace(letters, 3, func(l []api.Event) { all = append(all, l) })
	same := 0
	for _, a := range all {
		like := class(a)
		for _, b := range all {
			want := like[fmt.Sprint(b)] != nil
			checkEquivalent(t, a, b, 2, want, api.OK)
			if want {
				same++
			}
		}
	}
	if same <= len(all) {
		t.Error("none but itself is equivalent to any", same)
	}
}

// aTrace makes a trace of n threads, in which few enough things are touched for many to depend on one another.
func aTrace(pick sample.Pick, n, length, objects int) []api.Event {
	var l []api.Event
	for range length {
		l = append(l, api.Event{Thread: pick(n), Kind: pick(5), Object: pick(objects)})
	}
	return l
}

// shuffled changes neighbours about so many times, at places at random, where they do not depend on one another, or by force.
func shuffled(pick sample.Pick, l []api.Event, count int, force bool) []api.Event {
	l = slices.Clone(l)
	for range count {
		at := pick(max(1, len(l)-1))
		if at+1 < len(l) && (force || !dep.Depends(l[at], l[at+1])) {
			l[at], l[at+1] = l[at+1], l[at]
		}
	}
	return l
}

// place is an event, and how many of its thread come ahead of it.
type place struct {
	e  api.Event
	at int
}

// places tells each event's place. No two are the same.
func places(l []api.Event) []place {
	var list []place
	count := map[int]int{}
	for _, e := range l {
		list = append(list, place{e, count[e.Thread]})
		count[e.Thread]++
	}
	return list
}

// sameOrders tells whether two traces have the same events, and those that depend on one another in the same order: a second way to tell that they are equivalent.
func sameOrders(a, b []api.Event) bool {
	one, two := places(a), places(b)
	where := map[place]int{}
	for i, p := range two {
		where[p] = i + 1
	}
	for j, p := range one {
		if where[p] == 0 {
			return false
		}
		for _, q := range one[:j] {
			if dep.Depends(p.e, q.e) && where[q] > where[p] {
				return false
			}
		}
	}
	return len(one) == len(two)
}

func TestTracesAtRandom(t *testing.T) {
	random := rand.New(rand.NewSource(1))
	same, not, high, wide := 0, 0, 0, 0
	for range 2000 {
		n := 1 + random.Intn(16)
		l := aTrace(random.Intn, n, random.Intn(40), 1+random.Intn(12))
		checkTrace(t, l, n)
		checkSame(t, l, shuffled(random.Intn, l, 200, false), n)
		for _, count := range []int{1, 3, 40} {
			other := shuffled(random.Intn, l, count, true)
			want := sameOrders(l, other)
			checkEquivalent(t, l, other, n, want, api.OK)
			if want {
				same++
			} else {
				not++
			}
		}
		for _, level := range levelsByWords(l) {
			high++
			if len(level) > 3 {
				wide++
			}
		}
	}
	if same < 1000 || not < 1000 || high < 10000 || wide < 2000 {
		t.Error("too few are equivalent, or not, or of many levels, or of great ones", same, not, high, wide)
	}
}

func TestLongTracesAtRandom(t *testing.T) {
	random := rand.New(rand.NewSource(2))
	for _, x := range []struct{ n, objects int }{{16, 1}, {16, 300}, {2, 5}} {
		l := aTrace(random.Intn, x.n, api.MaxEvents, x.objects)
		checkLeast(t, l, x.n, leastByWords(l), api.OK)
		checkLevels(t, l, x.n, levelsByWords(l), api.OK)
		checkSame(t, l, shuffled(random.Intn, l, 50000, false), x.n)
		checkEquivalent(t, l, shuffled(random.Intn, l, 50000, true), x.n, false, api.OK)
	}
}

// played tells the schedule and the events of some run of a code, of at most so many steps.
func played(t *testing.T, c api.Code, most int, pick sample.Pick) ([]int, []api.Event) {
	t.Helper()
	m, err := vm.New(c, 60)
	if err != api.OK {
		t.Fatal(err)
	}
	var schedule []int
	var l []api.Event
	for range most {
		var may []int
		for th := range m.Threads() {
			if m.Can(th) {
				may = append(may, th)
			}
		}
		if len(may) == 0 {
			break
		}
		th := may[pick(len(may))]
		e, _, err := m.Step(th)
		if err != api.OK {
			t.Fatal(err)
		}
		schedule, l = append(schedule, th), append(l, e)
	}
	return schedule, l
}

// checkPlayed fails if a trace in an order is not played as its schedule says, or to another state than that.
func checkPlayed(t *testing.T, c api.Code, schedule []int, l []api.Event, order []int) {
	t.Helper()
	_, m, err := dep.Play(c, 60, schedule)
	if err != api.OK {
		t.Fatal(err)
	}
	other, err := norm.Schedule(l, order)
	if err != api.OK {
		t.Fatal(err)
	}
	events, fork, err := dep.Play(c, 60, other)
	if err != api.OK || !slices.Equal(events, inOrder(l, order)) || !bytes.Equal(m.State(), fork.State()) {
		t.Fatalf("%v and %v do not go alike: %v", schedule, other, err)
	}
}

// The traces of programs and of codes that are of none: their forms are played, too, and end alike. (A step that ends all by itself is left out, as others might come behind it.)
func TestTracesOfSchedules(t *testing.T) {
	random := rand.New(rand.NewSource(3))
	long, moved := 0, 0
	for range 3000 {
		// A program that sample makes may be.
		c, _ := compile.Compile(sample.Program(random.Intn))
		for _, c := range []api.Code{c, sample.Code(random.Intn)} {
			schedule, l := played(t, c, 25, random.Intn)
			checkTrace(t, l, len(c.Bodies))
			_, m, _ := dep.Play(c, 60, schedule)
			if how, _ := m.End(); how == api.Failed || how == api.Trapped || how == api.Overrun {
				schedule, l = schedule[:len(l)-1], l[:len(l)-1]
			}
			least, levels := leastByWords(l), levelsByWords(l)
			checkPlayed(t, c, schedule, l, least)
			checkPlayed(t, c, schedule, l, slices.Concat(levels...))
			if len(l) > 8 {
				long++
			}
			if !slices.IsSorted(least) {
				moved++
			}
		}
	}
	if long < 500 || moved < 500 {
		t.Error("too few are long, or not in their least form", long, moved)
	}
}

// FuzzTraces holds any trace against the chapter's words: three bytes are an event, the last ones left are nothing.
func FuzzTraces(f *testing.F) {
	f.Add([]byte{0, 2, 0, 1, 1, 0, 1, 0, 0, 0, 2, 1, 1, 1, 1}, 2)
	f.Add([]byte{0, 3, 0, 0, 2, 0, 0, 4, 0, 5, 3, 0, 5, 2, 0, 5, 4, 0}, 16)
	f.Add([]byte{9, 2, 0}, 0)
	f.Fuzz(func(t *testing.T, b []byte, n int) {
		var l []api.Event
		for ; len(b) > 2 && len(l) < 50; b = b[3:] {
			l = append(l, api.Event{Thread: int(b[0]) % 17, Kind: int(int8(b[1])), Object: int(b[2])})
		}
		strange := func(e api.Event) bool { return e.Thread >= n }
		if n < 1 || n > api.MaxThreads || slices.ContainsFunc(l, strange) {
			checkLeast(t, l, n, nil, api.ErrArg)
			checkLevels(t, l, n, nil, api.ErrArg)
			checkEquivalent(t, l, l, n, false, api.ErrArg)
			return
		}
		checkTrace(t, l, n)
	})
}
