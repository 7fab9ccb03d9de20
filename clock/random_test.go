package clock_test

import (
	"math/rand"
	"slices"
	"testing"

	"assize/api"
	"assize/clock"
	"assize/compile"
	"assize/dep"
	"assize/sample"
	"assize/vm"
)

// happens tells by the chapter's words what happens ahead of what: of two events, the later one's row, at the earlier one's place.
func happens(l []api.Event) [][]bool {
	rows := make([][]bool, len(l))
	for j := range l {
		rows[j] = make([]bool, len(l))
		for i := j - 1; i >= 0; i-- {
			rows[j][i] = dep.Depends(l[i], l[j])
			for k := i + 1; k < j && !rows[j][i]; k++ {
				rows[j][i] = rows[k][i] && rows[j][k]
			}
		}
	}
	return rows
}

// counted tells the clock of an event by the chapter's words.
func counted(l []api.Event, n, j int, row []bool) []int {
	c := make([]int, n)
	for i, is := range row {
		if is {
			c[l[i].Thread]++
		}
	}
	c[l[j].Thread]++
	return c
}

// numbers tells at which places a row is true.
func numbers(row []bool) []int {
	var list []int
	for i, is := range row {
		if is {
			list = append(list, i)
		}
	}
	return list
}

// checkTrace holds all that is told of a trace against the chapter's words.
func checkTrace(t *testing.T, l []api.Event, n int) {
	t.Helper()
	rows := happens(l)
	var want, grown [][]int
	for j := range l {
		want = append(want, counted(l, n, j, rows[j]))
	}
	checkClocks(t, l, n, want, api.OK)
	clocks, _ := clock.Clocks(l, n)
	for j, e := range l {
		checkPast(t, l, n, j, numbers(rows[j]), api.OK)
		for i := range l {
			checkAhead(t, clocks, l, i, j, rows[j][i], api.OK)
		}
		checkNext(t, grown, l[:j], n, e, want[j], api.OK)
		next, _ := clock.Next(grown, l[:j], n, e)
		grown = append(grown, next)
	}
	checkChangedAbout(t, l, n)
}

// checkChangedAbout fails if neighbours that do not depend on one another have other clocks, changed about, or the rest has.
func checkChangedAbout(t *testing.T, l []api.Event, n int) {
	t.Helper()
	clocks, _ := clock.Clocks(l, n)
	for at := range max(0, len(l)-1) {
		if dep.Depends(l[at], l[at+1]) {
			continue
		}
		about, want := slices.Clone(l), slices.Clone(clocks)
		about[at], about[at+1] = about[at+1], about[at]
		want[at], want[at+1] = want[at+1], want[at]
		checkClocks(t, about, n, want, api.OK)
	}
}

// checkOrder fails if to happen ahead, as Ahead tells it, is no order.
func checkOrder(t *testing.T, l []api.Event, n int) {
	t.Helper()
	clocks, _ := clock.Clocks(l, n)
	ahead := func(i, j int) bool {
		is, err := clock.Ahead(clocks, l, i, j)
		if err != api.OK {
			t.Fatal(err)
		}
		return is
	}
	for i := range l {
		for j := range l {
			if ahead(i, j) && (ahead(j, i) || i == j) {
				t.Fatalf("%s: %d and %d are each ahead of the other one", short(l), i, j)
			}
			for k := range l {
				if ahead(i, j) && ahead(j, k) && !ahead(i, k) {
					t.Fatalf("%s: %d is not ahead of %d, though %d is between them", short(l), i, k, j)
				}
			}
		}
	}
}

// All traces of up to four events of three threads.
func TestEveryShortTrace(t *testing.T) {
	var letters []api.Event
	for th := range 3 {
		letters = append(letters, local(th), reads(0, th), writes(0, th), writes(1, th), locks(0, th), unlocks(0, th))
	}
	count := 0
	var each func(l []api.Event)
	each = func(l []api.Event) {
		checkTrace(t, l, 3)
		count++
		for _, e := range letters {
			if len(l) < 4 {
				each(append(slices.Clone(l), e))
			}
		}
	}
	each(nil)
	if count != 1+18+18*18+18*18*18+18*18*18*18 {
		t.Error(count)
	}
}

// aTrace makes a trace of n threads, in which few enough things are touched for many to depend on one another.
func aTrace(pick sample.Pick, n, length, objects int) []api.Event {
	var l []api.Event
	for range length {
		l = append(l, api.Event{Thread: pick(n), Kind: pick(5), Object: pick(objects)})
	}
	return l
}

func TestTracesAtRandom(t *testing.T) {
	random := rand.New(rand.NewSource(1))
	ahead, not := 0, 0
	for range 3000 {
		n := 1 + random.Intn(16)
		l := aTrace(random.Intn, n, random.Intn(40), 1+random.Intn(12))
		checkTrace(t, l, n)
		if len(l) <= 20 {
			checkOrder(t, l, n)
		}
		for j, row := range happens(l) {
			ahead += len(numbers(row))
			not += j - len(numbers(row))
		}
	}
	if ahead < 100000 || not < 100000 {
		t.Error("too few are ahead, or not", ahead, not)
	}
}

func TestLongTracesAtRandom(t *testing.T) {
	random := rand.New(rand.NewSource(2))
	for _, x := range []struct{ n, objects int }{{16, 1}, {16, 300}, {2, 5}} {
		l := aTrace(random.Intn, x.n, api.MaxEvents, x.objects)
		rows := happens(l)
		clocks, err := clock.Clocks(l, x.n)
		if err != api.OK || len(clocks) != len(l) {
			t.Fatal(err)
		}
		for j, c := range clocks {
			if !slices.Equal(c, counted(l, x.n, j, rows[j])) {
				t.Fatal(j, c)
			}
		}
		for _, j := range []int{0, 1, 500, 1022, 1023} {
			checkPast(t, l, x.n, j, numbers(rows[j]), api.OK)
			checkNext(t, clocks[:j], l[:j], x.n, l[j], clocks[j], api.OK)
		}
	}
}

// greatest works a next clock out of any clocks by the chapter's words.
func greatest(clocks [][]int, l []api.Event, n int, e api.Event) []int {
	want := make([]int, n)
	for th := range want {
		var all []int
		for i, c := range clocks {
			if dep.Depends(l[i], e) {
				all = append(all, c[th])
			}
		}
		if len(all) > 0 {
			want[th] = slices.Max(all)
		}
	}
	want[e.Thread] = 1
	for _, other := range l {
		if other.Thread == e.Thread {
			want[e.Thread]++
		}
	}
	return want
}

func TestNextOfAnyClocksAtRandom(t *testing.T) {
	random := rand.New(rand.NewSource(3))
	for range 20000 {
		n := 1 + random.Intn(16)
		l := aTrace(random.Intn, n, random.Intn(12), 1+random.Intn(4))
		clocks := make([][]int, len(l))
		for i := range clocks {
			for range n {
				clocks[i] = append(clocks[i], random.Intn(20)-15)
			}
		}
		e := aTrace(random.Intn, n, 1, 4)[0]
		checkNext(t, clocks, l, n, e, greatest(clocks, l, n, e), api.OK)
	}
}

// played tells the events of some schedule of a code, of at most so many steps.
func played(t *testing.T, c api.Code, most int, pick sample.Pick) []api.Event {
	t.Helper()
	m, err := vm.New(c, 60)
	if err != api.OK {
		t.Fatal(err)
	}
	var l []api.Event
	for range most {
		var may []int
		for th := range m.Threads() {
			if m.Can(th) {
				may = append(may, th)
			}
		}
		if len(may) == 0 {
			break
		}
		e, _, err := m.Step(may[pick(len(may))])
		if err != api.OK {
			t.Fatal(err)
		}
		l = append(l, e)
	}
	return l
}

// The traces of programs and of codes that are of none.
func TestTracesOfSchedules(t *testing.T) {
	random := rand.New(rand.NewSource(4))
	long := 0
	for range 3000 {
		// A program that sample makes may be.
		c, _ := compile.Compile(sample.Program(random.Intn))
		for _, c := range []api.Code{c, sample.Code(random.Intn)} {
			l := played(t, c, 25, random.Intn)
			checkTrace(t, l, len(c.Bodies))
			if len(l) > 8 {
				long++
			}
		}
	}
	if long < 500 {
		t.Error("too few are long", long)
	}
}

// FuzzTraces holds any trace against the chapter's words: three bytes are an event, the last ones left are nothing.
func FuzzTraces(f *testing.F) {
	f.Add([]byte{0, 2, 0, 1, 1, 0, 1, 0, 0, 0, 2, 1, 1, 1, 1}, 2)
	f.Add([]byte{0, 3, 0, 0, 4, 0, 5, 3, 0}, 16)
	f.Add([]byte{9, 2, 0}, 0)
	f.Fuzz(func(t *testing.T, b []byte, n int) {
		var l []api.Event
		for ; len(b) > 2 && len(l) < 50; b = b[3:] {
			l = append(l, api.Event{Thread: int(b[0]) % 17, Kind: int(int8(b[1])), Object: int(b[2])})
		}
		strange := func(e api.Event) bool { return e.Thread >= n }
		if n < 1 || n > api.MaxThreads || slices.ContainsFunc(l, strange) {
			checkNoTrace(t, l, n, api.ErrArg)
			return
		}
		checkTrace(t, l, n)
		checkOrder(t, l, n)
	})
}
