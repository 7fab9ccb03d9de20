package dep_test

import (
	"bytes"
	"math/rand"
	"slices"
	"testing"

	"assize/api"
	"assize/compile"
	"assize/dep"
	"assize/parse"
	"assize/sample"
	"assize/vm"
)

// tally tells what was seen: how machines ended, and of which kinds the events were that were changed about, the lesser one first.
type tally struct {
	ends  map[int]int
	pairs map[[2]int]int
}

func newTally() tally { return tally{map[int]int{}, map[[2]int]int{}} }

// breaks tells whether a machine ended by one of its steps alone, so that the last one may not be changed about.
func breaks(m *vm.Machine) bool {
	how, _ := m.End()
	return how == api.Failed || how == api.Trapped || how == api.Overrun
}

// checkChangedAbout fails if somewhere in a schedule that is played two neighbours that do not depend on one another may not be changed about.
func checkChangedAbout(t *testing.T, c api.Code, work int, schedule []int, seen tally) {
	t.Helper()
	events, m, err := dep.Play(c, work, schedule)
	if err != api.OK || len(events) != len(schedule) {
		t.Fatal(schedule, events, err)
	}
	how, _ := m.End()
	seen.ends[how]++
	for at := range len(schedule) - 1 {
		last := at+2 == len(schedule)
		if dep.Depends(events[at], events[at+1]) || last && breaks(m) {
			continue
		}
		about, _ := dep.Swapped(schedule, at)
		want := slices.Clone(events)
		want[at], want[at+1] = want[at+1], want[at]
		got, other, err := dep.Play(c, work, about)
		if err != api.OK || !slices.Equal(got, want) || !bytes.Equal(m.State(), other.State()) {
			t.Fatalf("%v changed about at %d: %v, %v; not %v", schedule, at, got, err, want)
		}
		a, b := events[at].Kind, events[at+1].Kind
		seen.pairs[[2]int{min(a, b), max(a, b)}]++
	}
}

// aSchedule makes a schedule of steps that are made, of at most so many.
func aSchedule(t *testing.T, c api.Code, work, most int, pick sample.Pick) []int {
	t.Helper()
	m, err := vm.New(c, work)
	if err != api.OK {
		t.Fatal(err)
	}
	var schedule []int
	for range most {
		var may []int
		for th := range m.Threads() {
			if m.Can(th) {
				may = append(may, th)
			}
		}
		if len(may) == 0 {
			break
		}
		th := may[pick(len(may))]
		if _, _, err := m.Step(th); err != api.OK {
			t.Fatal(schedule, th, err)
		}
		schedule = append(schedule, th)
	}
	return schedule
}

// checkAllSeen fails if some end, or some pair of kinds that goes on in either order, was seen seldom.
func checkAllSeen(t *testing.T, seen tally) {
	t.Helper()
	for how := api.Running; how <= api.Overrun; how++ {
		if seen.ends[how] < 20 {
			t.Error("too few end by", how, seen.ends)
		}
	}
	for a := api.Local; a <= api.Unlocks; a++ {
		for b := a; b <= api.Unlocks; b++ {
			if seen.pairs[[2]int{a, b}] < 20 {
				t.Error("too few are changed about of", a, b, seen.pairs)
			}
		}
	}
}

// guarded makes a code whose threads take mutexes and give them back, and touch shared variables meanwhile.
func guarded(pick sample.Pick) api.Code {
	c := api.Code{Shared: []api.Value{number(1), number(2)}, Mutexes: 2 + pick(2)}
	for range 2 + pick(2) {
		b := api.Body{Locals: []api.Value{number(3)}, Stack: 2}
		for range 1 + pick(3) {
			mutex := pick(c.Mutexes)
			b.Nodes = append(b.Nodes, api.Node{Kind: api.Take, Arg: mutex})
			for range pick(3) {
				b.Nodes = append(b.Nodes, touching(pick))
			}
			b.Nodes = append(b.Nodes, api.Node{Kind: api.Give, Arg: mutex})
		}
		for i := range b.Nodes {
			b.Nodes[i].Next = i + 1
		}
		c.Bodies = append(c.Bodies, b)
	}
	return c
}

// touching makes a node that touches a shared variable.
func touching(pick sample.Pick) api.Node {
	more := []api.Instr{{Op: api.Lit, Lit: number(2)}, {Op: api.Add}}
	if pick(2) == 0 {
		return api.Node{Kind: api.SetLocal, Code: append([]api.Instr{{Op: api.Fetch, Arg: pick(2)}}, more...)}
	}
	return api.Node{Kind: api.SetShared, Arg: pick(2), Code: append([]api.Instr{{Op: api.Load}}, more...)}
}

func TestChangedAboutAtRandom(t *testing.T) {
	random := rand.New(rand.NewSource(1))
	seen := newTally()
	for _, made := range []func(sample.Pick) api.Code{guarded, sample.Code, func(pick sample.Pick) api.Code {
		// A program that sample makes may be.
		c, _ := compile.Compile(sample.Program(pick))
		return c
	}} {
		for range 12000 {
			c := made(random.Intn)
			work := 1 + random.Intn(50)
			checkChangedAbout(t, c, work, aSchedule(t, c, work, 1+random.Intn(25), random.Intn), seen)
		}
	}
	checkAllSeen(t, seen)
}

// Changed about again and again, wherever it may be, a schedule comes to the same still.
func TestChangedAboutAgainAndAgain(t *testing.T) {
	random := rand.New(rand.NewSource(3))
	moved := 0
	for range 3000 {
		c := guarded(random.Intn)
		schedule := aSchedule(t, c, 60, 20, random.Intn)
		events, first, _ := dep.Play(c, 60, schedule)
		if breaks(first) {
			schedule = schedule[:len(schedule)-1]
			events, first, _ = dep.Play(c, 60, schedule)
		}
		start := slices.Clone(schedule)
		for range 30 {
			if len(schedule) < 2 {
				break
			}
			at := random.Intn(len(schedule) - 1)
			if !dep.Depends(events[at], events[at+1]) {
				schedule, _ = dep.Swapped(schedule, at)
				events[at], events[at+1] = events[at+1], events[at]
			}
		}
		got, m, err := dep.Play(c, 60, schedule)
		if err != api.OK || !slices.Equal(got, events) || !bytes.Equal(m.State(), first.State()) {
			t.Fatal(start, schedule, got, err)
		}
		if !slices.Equal(start, schedule) {
			moved++
		}
	}
	if moved < 300 {
		t.Error("too few were changed about", moved)
	}
}

// everySchedule calls f with each schedule whose steps are made, and that ends the machine or has so many steps.
func everySchedule(m *vm.Machine, most int, ahead []int, f func([]int)) {
	on := false
	for th := range m.Threads() {
		if len(ahead) < most && m.Can(th) {
			on = true
			next := m.Clone()
			next.Step(th)
			everySchedule(next, most, append(slices.Clone(ahead), th), f)
		}
	}
	if !on {
		f(ahead)
	}
}

// All schedules of small programs are changed about; and of all short lists of numbers just those are played whose steps are made.
func TestEverySchedule(t *testing.T) {
	seen := newTally()
	for _, s := range []string{
		example,
		"mutex m; mutex n; thread a { lock m; lock n; unlock n; unlock m; } thread b { lock n; lock m; unlock m; unlock n; } thread c { skip; }",
		"shared x int; shared y int; thread a { x = 1; y = 2; } thread b { local i int; i = x; y = i; } thread c { local j int; j = y; assert j != 1; }",
		"shared x int; mutex m; thread a { lock m; x = 1; unlock m; } thread b { lock m; assert x == 0; unlock m; } thread c { unlock m; }",
		"shared x bool; thread a { while !x { } } thread b { skip; x = true; } thread c { assert !x; }",
	} {
		c := compiled(t, s)
		for _, work := range []int{5, 99} {
			m, _ := vm.New(c, work)
			everySchedule(m, 9, nil, func(schedule []int) { checkChangedAbout(t, c, work, schedule, seen) })
		}
	}
	for how := api.Running; how <= api.Overrun; how++ {
		if seen.ends[how] == 0 {
			t.Error("none ends by", how, seen.ends)
		}
	}
	checkRefusedJustSo(t, compiled(t, "mutex m; thread a { lock m; unlock m; } thread b { lock m; assert 1 / 0 == 1; }"), 5)
}

// checkRefusedJustSo fails if one of all lists of threads' numbers, and of two that are none, is played or refused otherwise than step by step.
func checkRefusedJustSo(t *testing.T, c api.Code, most int) {
	t.Helper()
	var each func(schedule []int)
	each = func(schedule []int) {
		m, _ := vm.New(c, 9)
		var want []api.Event
		wantErr := api.OK
		for _, th := range schedule {
			e, _, err := m.Step(th)
			if err != api.OK {
				want, wantErr = nil, api.ErrState
				break
			}
			want = append(want, e)
		}
		events, got, err := dep.Play(c, 9, schedule)
		if err != wantErr || !slices.Equal(events, want) || (got == nil) != (err != api.OK) || err == api.OK && !bytes.Equal(m.State(), got.State()) {
			t.Errorf("%v: %v, %v; not %v, %v", schedule, events, err, want, wantErr)
		}
		for th := -1; th <= len(c.Bodies) && len(schedule) < most; th++ {
			each(append(slices.Clone(schedule), th))
		}
	}
	each(nil)
}

// FuzzEvents holds any two events against the chapter's words.
func FuzzEvents(f *testing.F) {
	f.Add(0, api.Reads, 0, 1, api.Writes, 0)
	f.Add(0, api.Locks, 1, 1, api.Unlocks, 1)
	f.Add(2, api.Local, 0, 2, -1, 5)
	f.Fuzz(func(t *testing.T, threadA, kindA, objectA, threadB, kindB, objectB int) {
		a := api.Event{Thread: threadA, Kind: kindA, Object: objectA}
		b := api.Event{Thread: threadB, Kind: kindB, Object: objectB}
		checkDepends(t, a, b, depend(a, b))
	})
}

// FuzzSchedules plays texts' programs by schedules, and changes neighbours about.
func FuzzSchedules(f *testing.F) {
	f.Add(example, []byte{1, 1, 0, 1})
	f.Add("shared x int; thread t { local i int; while i < 9 { i = i + 1; x = i / (i - 4); } } thread u { assert x < 3; }", []byte{0, 0, 1})
	f.Add("mutex m; mutex n; thread t { lock m; lock n; unlock m; } thread u { lock n; if true { lock m; } else { skip; } unlock m; }", []byte{0, 1})
	f.Fuzz(func(t *testing.T, text string, choices []byte) {
		p, fault := parse.Parse(text)
		if fault.Err != api.OK {
			return
		}
		c, err := compile.Compile(p)
		if err != api.OK {
			return
		}
		pick := func(n int) int {
			first := int(choices[0]) % n
			choices = choices[1:]
			return first
		}
		work := 1 + len(text)
		checkChangedAbout(t, c, work, aSchedule(t, c, work, min(len(choices), 40), pick), newTally())
	})
}
