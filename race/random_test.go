package race_test

import (
	"math/rand"
	"slices"
	"testing"

	"assize/api"
	"assize/compile"
	"assize/dep"
	"assize/parse"
	"assize/race"
	"assize/sample"
	"assize/vm"
)

// order tells what is ahead of what, if one event is ahead of a later one as direct tells, or by way of others: the later one's row, at the earlier one's place.
func order(m int, direct func(i, j int) bool) [][]bool {
	rows := make([][]bool, m)
	for j := range m {
		rows[j] = make([]bool, m)
		for i := j - 1; i >= 0; i-- {
			rows[j][i] = direct(i, j)
			for k := i + 1; k < j && !rows[j][i]; k++ {
				rows[j][i] = rows[k][i] && rows[j][k]
			}
		}
	}
	return rows
}

// happens tells by the words of chapter 13 what happens ahead of what.
func happens(l []api.Event) [][]bool {
	return order(len(l), func(i, j int) bool { return dep.Depends(l[i], l[j]) })
}

// byLocks tells by the chapter's words what is by locks ahead of what.
func byLocks(l []api.Event) [][]bool {
	return order(len(l), func(i, j int) bool {
		a, b := l[i], l[j]
		return a.Thread == b.Thread || a.Kind == api.Unlocks && b.Kind == api.Locks && a.Object == b.Object
	})
}

// racesByWords tells a trace's races by the chapter's words.
func racesByWords(l []api.Event) []api.Pair {
	rows := happens(l)
	var pairs []api.Pair
	for j, b := range l {
		for i, a := range l[:j] {
			between := false
			for k := i + 1; k < j; k++ {
				between = between || rows[k][i] && rows[j][k]
			}
			if a.Thread != b.Thread && dep.Depends(a, b) && !between {
				pairs = append(pairs, api.Pair{First: i, Second: j})
			}
		}
	}
	return pairs
}

// dataByWords tells a trace's data races by the chapter's words.
func dataByWords(l []api.Event) []api.Pair {
	rows := byLocks(l)
	variable := func(e api.Event) bool { return e.Kind == api.Reads || e.Kind == api.Writes }
	var pairs []api.Pair
	for j, b := range l {
		for i, a := range l[:j] {
			one := variable(a) && variable(b) && a.Object == b.Object
			if a.Thread != b.Thread && one && (a.Kind == api.Writes || b.Kind == api.Writes) && !rows[j][i] {
				pairs = append(pairs, api.Pair{First: i, Second: j})
			}
		}
	}
	return pairs
}

// firstsOf tells the first ones of those pairs that have that second one.
func firstsOf(pairs []api.Pair, second int) []int {
	var firsts []int
	for _, p := range pairs {
		if p.Second == second {
			firsts = append(firsts, p.First)
		}
	}
	return firsts
}

// checkTrace holds all that is told of a trace against the chapter's words.
func checkTrace(t *testing.T, l []api.Event, n int) {
	t.Helper()
	races := racesByWords(l)
	checkRaces(t, l, n, races, api.OK)
	checkData(t, l, n, dataByWords(l), api.OK)
	for j, e := range l {
		checkPending(t, l[:j], n, e, firstsOf(races, j), api.OK)
	}
	checkFollows(t, l, n)
}

// checkFollows fails if what happens ahead of what does not come of the threads' own order and of the races, or a trace without races has events of unlike threads that depend on one another.
func checkFollows(t *testing.T, l []api.Event, n int) {
	t.Helper()
	races, err := race.Races(l, n)
	if err != api.OK {
		t.Fatal(err)
	}
	seen := map[api.Pair]int{}
	for _, p := range races {
		seen[p]++
	}
	got := order(len(l), func(i, j int) bool {
		return l[i].Thread == l[j].Thread || seen[api.Pair{First: i, Second: j}] > 0
	})
	if !slices.EqualFunc(got, happens(l), slices.Equal[[]bool]) {
		t.Fatalf("%s: by the races %s something else happens ahead", short(l), short(races))
	}
	for j, b := range l {
		for _, a := range l[:j] {
			if len(races) == 0 && a.Thread != b.Thread && dep.Depends(a, b) {
				t.Fatalf("%s: %v and %v depend on one another, without a race", short(l), a, b)
			}
		}
	}
}

// eachTrace calls f with all traces of these events, of at most so many, and tells how many there are.
func eachTrace(letters []api.Event, most int, f func(l []api.Event)) int {
	count := 0
	var each func(l []api.Event)
	each = func(l []api.Event) {
		f(l)
		count++
		for _, e := range letters {
			if len(l) < most {
				each(append(slices.Clone(l), e))
			}
		}
	}
	each(nil)
	return count
}

// All traces of up to four events of three threads.
func TestEveryShortTrace(t *testing.T) {
	var letters []api.Event
	for th := range 3 {
		letters = append(letters, local(th), reads(0, th), writes(0, th), writes(1, th), locks(0, th), unlocks(0, th))
	}
	count := eachTrace(letters, 4, func(l []api.Event) { checkTrace(t, l, 3) })
	if count != 1+18+18*18+18*18*18+18*18*18*18 {
		t.Error(count)
	}
}

// All traces of up to six events of two threads, which write one variable and have one mutex.
func TestEveryTraceWithAMutex(t *testing.T) {
	var letters []api.Event
	for th := range 2 {
		letters = append(letters, writes(0, th), locks(0, th), unlocks(0, th))
	}
	guarded, not := 0, 0
	eachTrace(letters, 6, func(l []api.Event) {
		checkTrace(t, l, 2)
		if len(dataByWords(l)) > 0 {
			not++
		} else if slices.Contains(l, writes(0, 0)) && slices.Contains(l, writes(0, 1)) {
			guarded++
		}
	})
	if guarded < 100 || not < 1000 {
		t.Error("too few are guarded, or not", guarded, not)
	}
}

// aTrace makes a trace of n threads, in which few enough things are touched for many to depend on one another.
func aTrace(pick sample.Pick, n, length, objects int) []api.Event {
	var l []api.Event
	for range length {
		l = append(l, api.Event{Thread: pick(n), Kind: pick(5), Object: pick(objects)})
	}
	return l
}

func TestTracesAtRandom(t *testing.T) {
	random := rand.New(rand.NewSource(1))
	races, data, guarded := 0, 0, 0
	for i := range 3000 {
		// Few threads with few things have much guarded by mutexes.
		most := []int{3, 16}[i%2]
		n := 1 + random.Intn(most)
		l := aTrace(random.Intn, n, random.Intn(40), 1+random.Intn(most))
		checkTrace(t, l, n)
		bare := dataByWords(l)
		races += len(racesByWords(l))
		data += len(bare)
		guarded += len(dataByWords(withoutLocks(l))) - len(bare)
	}
	if races < 10000 || data < 10000 || guarded < 1000 {
		t.Error("too few races, data races or pairs that are guarded", races, data, guarded)
	}
}

// withoutLocks tells a trace in which no mutex is touched.
func withoutLocks(l []api.Event) []api.Event {
	l = slices.Clone(l)
	for i, e := range l {
		if e.Kind == api.Locks || e.Kind == api.Unlocks {
			l[i] = local(e.Thread)
		}
	}
	return l
}

func TestLongTracesAtRandom(t *testing.T) {
	random := rand.New(rand.NewSource(2))
	for _, x := range []struct{ n, objects int }{{16, 1}, {16, 300}, {2, 5}} {
		l := aTrace(random.Intn, x.n, api.MaxEvents, x.objects)
		races := racesByWords(l)
		checkRaces(t, l, x.n, races, api.OK)
		checkData(t, l, x.n, dataByWords(l), api.OK)
		for _, j := range []int{0, 1, 500, 1022, 1023} {
			checkPending(t, l[:j], x.n, l[j], firstsOf(races, j), api.OK)
		}
	}
}

// played tells the events of some schedule of a code, of at most so many steps.
func played(t *testing.T, c api.Code, most int, pick sample.Pick) []api.Event {
	t.Helper()
	m, err := vm.New(c, 60)
	if err != api.OK {
		t.Fatal(err)
	}
	var l []api.Event
	for range most {
		var may []int
		for th := range m.Threads() {
			if m.Can(th) {
				may = append(may, th)
			}
		}
		if len(may) == 0 {
			break
		}
		e, _, err := m.Step(may[pick(len(may))])
		if err != api.OK {
			t.Fatal(err)
		}
		l = append(l, e)
	}
	return l
}

// The traces of programs and of codes that are of none.
func TestTracesOfSchedules(t *testing.T) {
	random := rand.New(rand.NewSource(3))
	long := 0
	for range 3000 {
		// A program that sample makes may be.
		c, _ := compile.Compile(sample.Program(random.Intn))
		for _, c := range []api.Code{c, sample.Code(random.Intn)} {
			l := played(t, c, 25, random.Intn)
			checkTrace(t, l, len(c.Bodies))
			if len(l) > 8 {
				long++
			}
		}
	}
	if long < 500 {
		t.Error("too few are long", long)
	}
}

// P14.3: one mutex that is held guards all

// guarded makes a trace of n threads in which variables are touched by the one thread alone that holds the mutex 0; what else the threads do is all one.
func guarded(pick sample.Pick, n, length int) []api.Event {
	var l []api.Event
	holder := -1
	for range length {
		th := pick(n)
		switch {
		case holder < 0 && pick(2) == 0:
			holder = th
			l = append(l, locks(0, th))
		case holder == th && pick(4) == 0:
			holder = -1
			l = append(l, unlocks(0, th))
		case holder == th:
			l = append(l, api.Event{Thread: th, Kind: api.Reads + pick(2), Object: pick(3)})
		case pick(2) == 0:
			l = append(l, local(th))
		default:
			l = append(l, api.Event{Thread: th, Kind: api.Locks + pick(2), Object: 1 + pick(3)})
		}
	}
	return l
}

func TestOneMutexGuardsAll(t *testing.T) {
	random := rand.New(rand.NewSource(4))
	races := 0
	for range 3000 {
		n := 1 + random.Intn(6)
		l := guarded(random.Intn, n, random.Intn(80))
		checkData(t, l, n, nil, api.OK)
		for _, p := range racesByWords(l) {
			if l[p.First].Kind == api.Unlocks && l[p.First].Object == 0 {
				races++
			}
		}
	}
	if races < 3000 {
		t.Error("too seldom the mutex goes from one thread to another", races)
	}
}

// compiled tells a program's code.
func compiled(t *testing.T, text string) api.Code {
	t.Helper()
	p, fault := parse.Parse(text)
	if fault.Err != api.OK {
		t.Fatal(fault)
	}
	c, err := compile.Compile(p)
	if err != api.OK {
		t.Fatal(err)
	}
	return c
}

// Of a program that guards its variable no schedule has a data race; of one that doesn't, each that lets both touch it has one.
func TestGuardedPrograms(t *testing.T) {
	random := rand.New(rand.NewSource(5))
	same := "thread a { local i int; lock m; i = x; x = i + 1; unlock m; } thread b { local i int; lock m; i = x; x = i + 2; unlock m; }"
	other := "thread a { local i int; lock m; i = x; x = i + 1; unlock m; } thread b { local i int; lock n; i = x; x = i + 2; unlock n; }"
	for range 300 {
		l := played(t, compiled(t, "shared x int; mutex m; "+same), 20, random.Intn)
		checkData(t, l, 2, nil, api.OK)
		if races, _ := race.Races(l, 2); len(l) != 8 || len(races) != 1 {
			t.Error(l, races)
		}
		l = played(t, compiled(t, "shared x int; mutex m; mutex n; "+other), 20, random.Intn)
		// a's two events and b's: all pairs but that of both that read.
		if data, err := race.Data(l, 2); len(l) != 8 || len(data) != 3 || err != api.OK {
			t.Error(l, data, err)
		}
	}
}

// FuzzTraces holds any trace against the chapter's words: three bytes are an event, the last ones left are nothing.
func FuzzTraces(f *testing.F) {
	f.Add([]byte{0, 2, 0, 1, 1, 0, 1, 0, 0, 0, 2, 1, 1, 1, 1}, 2)
	f.Add([]byte{0, 3, 0, 0, 2, 0, 0, 4, 0, 5, 3, 0, 5, 2, 0, 5, 4, 0}, 16)
	f.Add([]byte{9, 2, 0}, 0)
	f.Fuzz(func(t *testing.T, b []byte, n int) {
		var l []api.Event
		for ; len(b) > 2 && len(l) < 50; b = b[3:] {
			l = append(l, api.Event{Thread: int(b[0]) % 17, Kind: int(int8(b[1])), Object: int(b[2])})
		}
		strange := func(e api.Event) bool { return e.Thread >= n }
		if n < 1 || n > api.MaxThreads || slices.ContainsFunc(l, strange) {
			checkNoTrace(t, l, n, api.ErrArg)
			return
		}
		checkTrace(t, l, n)
	})
}
