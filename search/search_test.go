package search_test

import (
	"fmt"
	"math"
	"slices"
	"strconv"
	"strings"
	"testing"

	"assize/api"
	"assize/code"
	"assize/search"
)

// passes makes a code of threads that go on without an end, an instruction a step.
func passes(threads int) api.Code {
	return api.Code{Bodies: times(threads, api.Body{Nodes: []api.Node{{Kind: api.Pass}}})}
}

// P16.1: what New and Restore refuse

func TestWhatIsRefused(t *testing.T) {
	good := compiled(t, "thread a { skip; }")
	front := begun(t, good, 9, 9).Frontier()
	refused := func(c api.Code, work, budget int) {
		t.Helper()
		if s, err := search.New(c, work, budget); s != nil || err != api.ErrArg {
			t.Errorf("New(%s, %d, %d) = %v, %v", short(c), work, budget, s != nil, err)
		}
		// It comes ahead of what is wrong with a frontier.
		for _, f := range []api.Frontier{front, {}, {Verdict: safe()}} {
			if s, err := search.Restore(c, work, budget, f); s != nil || err != api.ErrArg {
				t.Errorf("Restore(%s, %d, %d, %s) = %v, %v", short(c), work, budget, short(f), s != nil, err)
			}
		}
	}
	for _, n := range []int{-1, math.MinInt, math.MaxInt} {
		refused(good, n, 9)
		refused(good, 9, n)
	}
	refused(good, 0, 9)
	refused(good, 65537, 9)
	refused(good, 9, 1<<40+1)
	refused(good, 0, -1)
	for _, work := range []int{1, 65536} {
		for _, budget := range []int{0, 1, 1<<40 - 1, 1 << 40} {
			begun(t, good, work, budget)
			restored(t, good, work, budget, api.Frontier{Verdict: safe()})
		}
	}
	for want, list := range map[api.Errno][]api.Code{
		api.ErrLong:   {{}, passes(17), {Shared: times(33, api.Value{T: api.Int}), Bodies: []api.Body{{}}}},
		api.ErrArg:    {{Mutexes: 17, Bodies: []api.Body{{}}}, {Bodies: []api.Body{{Stack: 65}}}, {Bodies: []api.Body{{Nodes: []api.Node{{}}}}}},
		api.ErrType:   {{Bodies: []api.Body{{Nodes: []api.Node{{Kind: api.Demand, Next: 1}}}}}},
		code.ErrTouch: {{Shared: []api.Value{{T: api.Int}}, Bodies: []api.Body{{Stack: 1, Nodes: []api.Node{{Code: []api.Instr{{Op: api.Fetch}}, Kind: api.SetShared, Next: 1}}}}}},
	} {
		for i, c := range list {
			if err := code.Check(c); err != want {
				t.Error(want, i, err)
			}
			refused(c, 9, 9)
		}
	}
}

// P16.1: a search begins by coming to its code's machine.

func TestBeginnings(t *testing.T) {
	start := func(text string, budget int, want api.Frontier) {
		t.Helper()
		checkFrontier(t, begun(t, compiled(t, text), 5, budget), want)
	}
	first := api.Frontier{Path: []int{0}, Back: []int{1}, Asleep: []int{0}}
	start("thread a { skip; } thread b { skip; }", 1, first)
	start("thread a { skip; } thread b { skip; }", 1<<40, first)
	start("thread a { skip; } thread b { skip; }", 0, api.Frontier{Verdict: spent()})
	start("thread a { } thread b { skip; }", 1, api.Frontier{Path: []int{1}, Back: []int{2}, Asleep: []int{0}})
	start("thread a { }", 0, api.Frontier{Played: 1, Verdict: safe()})
	start("thread a { }", 1, api.Frontier{Played: 1, Verdict: safe()})
	start("mutex m; thread a { lock m; lock m; }", 1, first)
}

// P16.2

func TestSearchesThatAreNone(t *testing.T) {
	made := begun(t, compiled(t, "thread a { assert false; }"), 9, 9)
	copied := *made
	checkRun(t, made, 9, 2)
	ended := *made
	for i, s := range []*search.Search{nil, {}, new(search.Search), &copied, &ended} {
		for _, n := range []int{-1, 0, 1, math.MinInt, math.MaxInt} {
			if got, err := s.Run(n); got != 0 || err != api.ErrNil {
				t.Error(i, n, got, err)
			}
		}
		if !sameFrontier(s.Frontier(), api.Frontier{}) || !sameVerdict(s.Verdict(), api.Verdict{}) || s.Played() != 0 || s.Charged() != 0 {
			t.Error(i, "is something")
		}
	}
	checkEnd(t, made, fails(api.Failed, 0, 0), 0, 2)
}

func TestRuns(t *testing.T) {
	c := compiled(t, "shared x int; thread a { x = 1; } thread b { x = 2; }")
	s := begun(t, c, 100, 1000)
	refused := func() {
		t.Helper()
		ahead := s.Frontier()
		for _, n := range []int{-1, -2, math.MinInt} {
			if got, err := s.Run(n); got != 0 || err != api.ErrArg {
				t.Error(n, got, err)
			}
		}
		checkFrontier(t, s, ahead)
		checkRun(t, s, 0, 0)
		checkFrontier(t, s, ahead)
	}
	for _, want := range []api.Frontier{
		{Path: []int{0}, Back: []int{1}, Asleep: []int{0}, Charged: 0},
		{Path: []int{0}, Back: []int{1}, Asleep: []int{0}, Charged: 1, Done: 1},
		{Path: []int{0, 1}, Back: []int{3, 2}, Asleep: []int{0, 0}, Charged: 2},
		{Path: []int{0, 1}, Back: []int{3, 2}, Asleep: []int{0, 0}, Charged: 3, Done: 1},
		{Path: []int{1}, Back: []int{3}, Asleep: []int{1}, Charged: 4, Played: 1},
		{Path: []int{1}, Back: []int{3}, Asleep: []int{1}, Charged: 5, Played: 1, Done: 1},
		{Path: []int{1, 0}, Back: []int{3, 1}, Asleep: []int{1, 0}, Charged: 6, Played: 1},
		{Path: []int{1, 0}, Back: []int{3, 1}, Asleep: []int{1, 0}, Charged: 7, Played: 1, Done: 1},
		{Charged: 8, Played: 2, Verdict: safe()},
	} {
		checkFrontier(t, s, want)
		refused()
		if want.Verdict.Kind == api.Open {
			checkRun(t, s, 1, 1)
		}
	}
	for _, n := range []int{0, 1, 1000, math.MaxInt} {
		checkRun(t, s, n, 0)
	}
	checkRun(t, begun(t, c, 100, 1000), math.MaxInt, 8)
	checkRun(t, begun(t, c, 100, 7), math.MaxInt, 7)
	checkRun(t, begun(t, c, 100, 0), math.MaxInt, 0)
}

// Threads that sleep are not tried, and wake by what they depend on.
func TestSleep(t *testing.T) {
	s := begun(t, compiled(t, "shared x int; shared y int; thread a { x = 1; } thread b { y = 1; } thread c { local i int; i = x; }"), 9, 99)
	checkRun(t, s, 6, 6)
	// c read what a wrote: on the level 0 all are to be tried, on the level 1 b alone.
	checkFrontier(t, s, api.Frontier{Path: []int{1}, Back: []int{7}, Asleep: []int{1}, Charged: 6, Played: 1})
	checkRun(t, s, 2, 2)
	// What b did wakes nobody; what c does wakes a, which might have gone first.
	checkFrontier(t, s, api.Frontier{Path: []int{1, 2}, Back: []int{7, 4}, Asleep: []int{1, 1}, Charged: 8, Played: 1})
	checkRun(t, s, 2, 2)
	checkFrontier(t, s, api.Frontier{Path: []int{1, 2, 0}, Back: []int{7, 5, 1}, Asleep: []int{1, 1, 0}, Charged: 10, Played: 1})
	checkRun(t, s, 2, 2)
	// Now a and b sleep, and c's step wakes a alone, so that b sleeps on to the end.
	checkFrontier(t, s, api.Frontier{Path: []int{2}, Back: []int{7}, Asleep: []int{3}, Charged: 12, Played: 2})
	checkRun(t, s, 2, 2)
	checkFrontier(t, s, api.Frontier{Path: []int{2, 0}, Back: []int{7, 1}, Asleep: []int{3, 2}, Charged: 14, Played: 2})
	checkRun(t, s, 9, 2)
	checkEnd(t, s, safe(), 2, 16)
}

// How many schedules are played that are not equivalent.
func TestPlayed(t *testing.T) {
	thread := func(number int, body string) string { return "thread t" + strconv.Itoa(number) + " { " + body + " } " }
	all := func(n int, body func(number int) string) string {
		text := ""
		for number := range n {
			text += thread(number, body(number))
		}
		return text
	}
	same := func(body string) func(int) string { return func(int) string { return body } }
	var many strings.Builder
	for number := range 32 {
		fmt.Fprintf(&many, "shared x%d int; ", number)
	}
	for number := range 16 {
		fmt.Fprintf(&many, "mutex m%d; ", number)
	}
	for _, x := range []struct {
		text string
		want int
	}{
		{all(16, same("skip; skip; skip;")), 1},
		{"mutex m; " + all(3, same("lock m; unlock m;")), 6},
		{"mutex m; " + all(5, same("lock m; skip; unlock m;")), 120},
		{"shared x int; " + all(5, same("x = 1;")), 120},
		{"shared x int; " + all(9, same("local i int; i = x;")), 1},
		{"shared x int; thread w { x = 1; } " + all(4, same("local i int; i = x;")), 16},
		{"shared x int; " + all(4, same("local i int; i = x;")) + "thread w { x = 1; }", 16},
		{many.String() + all(16, func(number int) string { return fmt.Sprintf("x%d = 1; lock m%d;", 2*number, number) }), 1},
		{many.String() + all(16, func(number int) string {
			return fmt.Sprintf("x%d = 1; lock m%d; unlock m%d;", number/2, 15-number, 15-number)
		}), 256},
		{many.String() + all(14, same("skip;")) + thread(14, "x31 = 1;") + thread(15, "x31 = 2; lock m15;"), 2},
		{many.String() + all(14, same("skip;")) + thread(14, "lock m15; unlock m15;") + thread(15, "x31 = 2; lock m15; unlock m15;"), 2},
		{"mutex m; mutex n; thread a { lock n; unlock n; } thread b { lock m; unlock m; lock n; unlock n; }", 2},
		// A thread that reads in a loop goes on until it sees what the other one does, or is tired.
		{"shared x bool; thread a { x = true; } thread b { local i int; local y bool; while i < 5 && !y { y = x; i = i + 1; } }", 6},
	} {
		s := begun(t, compiled(t, x.text), 500, 1<<40)
		charged, _ := s.Run(1 << 40)
		checkEnd(t, s, safe(), x.want, charged)
	}
}

// A step of a thread whose work is at the limit charges nothing, and does not wait for a slice.
func TestLimits(t *testing.T) {
	end := func(text string, work, n, charged int, v api.Verdict, played int) {
		t.Helper()
		c := compiled(t, text)
		for _, budget := range []int{charged, charged + 1, 1 << 40} {
			s := begun(t, c, work, budget)
			checkRun(t, s, n-1, n-1)
			if s.Verdict().Kind != api.Open {
				t.Fatal(text, s.Verdict())
			}
			checkRun(t, s, 1, 1)
			checkEnd(t, s, v, played, charged)
		}
		s := begun(t, c, work, charged-1)
		checkRun(t, s, n, n-1)
		if s.Verdict().Kind != api.Spent {
			t.Fatal(text, s.Verdict())
		}
	}
	// at the end of a step, and in the midst of one
	end("thread a { while true { } }", 2, 2, 2, fails(api.Overrun, 0, 0, 0), 0)
	end("thread a { while true { } }", 1, 1, 1, fails(api.Overrun, 0, 0), 0)
	end("thread a { while true { } }", 3, 3, 3, fails(api.Overrun, 0, 0, 0), 0)
	// just enough is no failure
	end("thread a { skip; skip; } thread b { skip; }", 2, 3, 3, safe(), 1)
	end("thread a { skip; skip; } thread b { skip; skip; skip; }", 2, 4, 4, fails(api.Overrun, 1, 0, 0, 1, 1, 1), 0)
	// a thread that waits does not work
	end("mutex m; thread a { lock m; skip; unlock m; } thread b { lock m; skip; unlock m; }", 3, 12, 12, safe(), 2)
	// what fails first is told, also where the limit is reached by it
	end("thread a { assert false; }", 2, 2, 2, fails(api.Failed, 0, 0), 0)
	end("thread a { assert 1 / 0 == 0; }", 3, 3, 3, fails(api.Trapped, 0, 0), 0)
	end("mutex m; thread a { unlock m; }", 1, 1, 1, fails(api.Trapped, 0, 0), 0)
	end("mutex m; thread a { lock m; } thread b { lock m; }", 1, 1, 1, fails(api.Deadlock, -1, 0), 0)
}

// P16.1: frontiers

// midst makes a search's code and frontier: three threads, of which one is in the midst of its second step.
func midst(t *testing.T) (api.Code, api.Frontier) {
	t.Helper()
	c := compiled(t, "shared x int; mutex m; thread a { lock m; x = 1; unlock m; } thread b { lock m; x = 2; } thread c { }")
	s := begun(t, c, 4, 50)
	checkRun(t, s, 2, 2)
	f := api.Frontier{Path: []int{0, 0}, Back: []int{3, 1}, Asleep: []int{0, 0}, Done: 1, Charged: 2}
	checkFrontier(t, s, f)
	return c, f
}

// changed tells a frontier, in memory of its own, behind a change.
func changed(f api.Frontier, change func(f *api.Frontier)) api.Frontier {
	f.Path, f.Back, f.Asleep = slices.Clone(f.Path), slices.Clone(f.Back), slices.Clone(f.Asleep)
	f.Verdict.Schedule = slices.Clone(f.Verdict.Schedule)
	change(&f)
	return f
}

func TestFrontiersWithoutAVerdict(t *testing.T) {
	c, f := midst(t)
	may := func(want bool, change func(f *api.Frontier)) {
		t.Helper()
		other := changed(f, change)
		if secondMayBe(c, 4, 50, other) != want {
			t.Errorf("by the second look it is not so of %s that it may be: %v", short(other), want)
		}
		s, err := search.Restore(c, 4, 50, other)
		if want {
			checkFrontier(t, restored(t, c, 4, 50, other), other)
		} else if s != nil || err != api.ErrBroken {
			t.Errorf("Restore of %s = %v, %v", short(other), s != nil, err)
		}
	}
	may(true, func(f *api.Frontier) {})
	for _, n := range []int{-1, math.MinInt} {
		may(false, func(f *api.Frontier) { f.Played = n })
		may(false, func(f *api.Frontier) { f.Charged = n })
		may(false, func(f *api.Frontier) { f.Done = n })
		may(false, func(f *api.Frontier) { f.Path[0] = n })
		may(false, func(f *api.Frontier) { f.Path[1] = n })
		may(false, func(f *api.Frontier) { f.Back[1] = n })
		may(false, func(f *api.Frontier) { f.Asleep[1] = n })
		may(false, func(f *api.Frontier) { f.Verdict.Kind = n })
		may(false, func(f *api.Frontier) { f.Verdict.How = n })
		may(false, func(f *api.Frontier) { f.Verdict.Who = n })
	}
	for _, n := range []int{0, 1, math.MaxInt} {
		may(true, func(f *api.Frontier) { f.Played = n })
	}
	for n, want := range map[int]bool{0: true, 49: true, 50: false, 51: false} {
		may(want, func(f *api.Frontier) { f.Charged = n })
	}
	// Two instructions are the step, which is over then.
	for n, want := range map[int]bool{0: true, 1: true, 2: false, 3: false, 8193: false} {
		may(want, func(f *api.Frontier) { f.Done = n })
	}
	// On the level 1 b waits for m, and c has ended.
	for n, want := range map[int]bool{0: false, 1: true, 2: false, 3: false, 5: false, 7: false, 1 << 16: false, 1<<16 + 1: false, 1<<32 + 1: false} {
		may(want, func(f *api.Frontier) { f.Back[1] = n })
	}
	for n, want := range map[int]bool{0: true, 1: false, 2: true, 3: false, 4: false, 6: false, 8: false, 1 << 16: false, 1 << 32: false, 1<<62 + 2: false} {
		may(want, func(f *api.Frontier) { f.Asleep[1] = n })
	}
	for n, want := range map[int]bool{0: true, 1: false, 2: false, 3: false, 16: false, 1 << 40: false} {
		may(want, func(f *api.Frontier) { f.Path[1] = n })
	}
	may(true, func(f *api.Frontier) { f.Back[0] = 1 })
	may(false, func(f *api.Frontier) { f.Back[0] = 2 })
	may(false, func(f *api.Frontier) { f.Path[0] = 1 })
	may(true, func(f *api.Frontier) { f.Path[0], f.Path[1], f.Back[1] = 1, 1, 2 })
	for kind := 1; kind <= 4; kind++ {
		may(false, func(f *api.Frontier) { f.Verdict.Kind = kind })
	}
	may(false, func(f *api.Frontier) { f.Verdict.How = 1 })
	may(false, func(f *api.Frontier) { f.Verdict.Who = 1 })
	may(false, func(f *api.Frontier) { f.Verdict.Schedule = []int{0} })
	may(true, func(f *api.Frontier) { f.Verdict.Schedule = []int{} })
	// lengths
	may(false, func(f *api.Frontier) { f.Path, f.Back, f.Asleep = nil, nil, nil })
	may(false, func(f *api.Frontier) { f.Path = f.Path[:1] })
	may(false, func(f *api.Frontier) { f.Back = f.Back[:1] })
	may(false, func(f *api.Frontier) { f.Asleep = f.Asleep[:1] })
	may(false, func(f *api.Frontier) { f.Path = append(f.Path, 0) })
	may(false, func(f *api.Frontier) { f.Back = append(f.Back, 1) })
	may(false, func(f *api.Frontier) { f.Asleep = append(f.Asleep, 0) })
	may(false, func(f *api.Frontier) { f.Path, f.Back, f.Asleep = f.Path[:1], f.Back[:1], f.Asleep[:1] })
	may(true, func(f *api.Frontier) { f.Path, f.Back, f.Asleep, f.Done = f.Path[:1], f.Back[:1], f.Asleep[:1], 0 })
	// The third step may be, and would be the last one within the limit; a step that ends the machine may not be made.
	third := func(f *api.Frontier) {
		f.Path, f.Back, f.Asleep, f.Done = append(f.Path, 0), append(f.Back, 1), append(f.Asleep, 2), 0
	}
	may(true, third)
	may(false, func(f *api.Frontier) {
		third(f)
		f.Path, f.Back, f.Asleep = []int{1, 1, 0}, []int{2, 2, 1}, []int{0, 0, 0}
	})
}

// Where a path's last step would overrun, no search stands.
func TestFrontiersAtTheLimit(t *testing.T) {
	c := compiled(t, "thread a { while true { } }")
	level := func(n, done int) api.Frontier {
		return api.Frontier{Path: times(n, 0), Back: times(n, 1), Asleep: times(n, 0), Done: done}
	}
	for _, x := range []struct {
		work, levels, done int
		want               api.Errno
	}{
		{4, 1, 0, api.OK}, {4, 1, 1, api.OK}, {4, 1, 2, api.ErrBroken}, {4, 2, 0, api.OK}, {4, 2, 1, api.OK}, {4, 3, 0, api.ErrBroken},
		{3, 2, 0, api.OK}, {3, 2, 1, api.ErrBroken}, {3, 3, 0, api.ErrBroken}, {1, 1, 0, api.OK}, {1, 1, 1, api.ErrBroken},
	} {
		if s, err := search.Restore(c, x.work, 9, level(x.levels, x.done)); err != x.want || (s != nil) != (err == api.OK) {
			t.Error(x, s != nil, err)
		}
	}
}

func TestFrontiersWithAVerdict(t *testing.T) {
	c, _ := midst(t)
	may := func(want bool, f api.Frontier) {
		t.Helper()
		if secondMayBe(c, 4, 50, f) != want {
			t.Errorf("by the second look it is not so of %s that it may be: %v", short(f), want)
		}
		s, err := search.Restore(c, 4, 50, f)
		if want {
			s = restored(t, c, 4, 50, f)
			checkFrontier(t, s, f)
			checkRun(t, s, 9, 0)
			checkFrontier(t, s, f)
		} else if s != nil || err != api.ErrBroken {
			t.Errorf("Restore of %s = %v, %v", short(f), s != nil, err)
		}
	}
	with := func(v api.Verdict) api.Frontier { return api.Frontier{Charged: 50, Verdict: v} }
	for _, v := range []api.Verdict{safe(), spent(), fails(api.Failed, 2, 0, 1, 2), fails(api.Deadlock, -1), fails(api.Overrun, 0, 0), fails(api.Trapped, 1)} {
		may(true, with(v))
		may(true, changed(with(v), func(f *api.Frontier) { f.Played = math.MaxInt }))
		for charged := range 52 {
			want := charged <= 50 && (v.Kind != api.Spent || charged == 50)
			may(want, changed(with(v), func(f *api.Frontier) { f.Charged = charged }))
		}
		may(false, changed(with(v), func(f *api.Frontier) { f.Charged = -1 }))
		may(false, changed(with(v), func(f *api.Frontier) { f.Played = -1 }))
		may(false, changed(with(v), func(f *api.Frontier) { f.Path = []int{0} }))
		may(false, changed(with(v), func(f *api.Frontier) { f.Back = []int{1} }))
		may(false, changed(with(v), func(f *api.Frontier) { f.Asleep = []int{0} }))
		may(false, changed(with(v), func(f *api.Frontier) { f.Path, f.Back, f.Asleep = []int{0}, []int{1}, []int{0} }))
		may(false, changed(with(v), func(f *api.Frontier) { f.Done = 1 }))
		may(false, changed(with(v), func(f *api.Frontier) { f.Done = -1 }))
		may(true, changed(with(v), func(f *api.Frontier) { f.Path, f.Back, f.Asleep = []int{}, []int{}, []int{} }))
	}
	for _, kind := range []int{api.Safe, api.Spent} {
		may(false, with(api.Verdict{Kind: kind, How: 2}))
		may(false, with(api.Verdict{Kind: kind, Who: 1}))
		may(false, with(api.Verdict{Kind: kind, Who: -1}))
		may(false, with(api.Verdict{Kind: kind, Schedule: []int{0}}))
	}
	may(false, with(api.Verdict{Kind: 4}))
	may(false, with(api.Verdict{Kind: -1}))
	for how := -1; how <= 7; how++ {
		for who := -2; who <= 4; who++ {
			want := how == 4 && who == -1 || (how == 2 || how == 3 || how == 5) && who >= 0 && who < 3
			may(want, with(fails(how, who, 0, 2)))
		}
	}
	for _, th := range []int{-1, 3, 16, math.MinInt, math.MaxInt} {
		may(false, with(fails(api.Failed, 0, 0, th)))
		may(false, with(fails(api.Failed, 0, th, 0)))
	}
	may(true, with(fails(api.Overrun, 0, times(1048577, 2)...)))
	may(false, with(fails(api.Overrun, 0, times(1048578, 2)...)))
}

// Frontiers to which no search comes, but which may be, are gone on from.
func TestStrangeFrontiers(t *testing.T) {
	c := compiled(t, "shared x int; thread a { x = 1; skip; } thread b { x = 2; } thread c { skip; }")
	// Nothing was to be tried on the level 0 but the step that was taken: what was missed is made up for.
	s := restored(t, c, 9, 99, api.Frontier{Path: []int{0, 2}, Back: []int{1, 4}, Asleep: []int{0, 0}, Played: 7, Charged: 3})
	checkRun(t, s, 1, 1)
	checkFrontier(t, s, api.Frontier{Path: []int{0, 2, 0}, Back: []int{7, 4, 1}, Asleep: []int{0, 0, 0}, Played: 7, Charged: 4})
	// Of the threads that are to be tried another one than the least is tried.
	s = restored(t, c, 9, 99, api.Frontier{Path: []int{2}, Back: []int{7}, Asleep: []int{2}})
	checkRun(t, s, 1, 1)
	checkFrontier(t, s, api.Frontier{Path: []int{2, 0}, Back: []int{7, 1}, Asleep: []int{2, 2}, Charged: 1})
	// All that may go on sleep behind the step: the search goes back, to the end.
	c = compiled(t, "mutex m; thread a { lock m; skip; } thread b { lock m; } thread c { skip; }")
	s = restored(t, c, 9, 99, api.Frontier{Path: []int{2}, Back: []int{4}, Asleep: []int{3}})
	checkRun(t, s, 9, 1)
	checkEnd(t, s, safe(), 0, 1)
	// One that waits sleeps, too, and is still looked at.
	s = restored(t, c, 9, 99, api.Frontier{Path: []int{0, 2}, Back: []int{1, 4}, Asleep: []int{0, 3}, Charged: 1})
	checkRun(t, s, 1, 1)
	checkFrontier(t, s, api.Frontier{Path: []int{1}, Back: []int{7}, Asleep: []int{1}, Charged: 2})
}

// Rule 4: what is handed in is not kept, and what is told is not shared.
func TestMemory(t *testing.T) {
	text := "shared x int = 1; mutex m; thread a { x = 2; lock m; assert x == 2; unlock m; } thread b { local i int = 1; lock m; x = i; unlock m; }"
	c, same := compiled(t, text), compiled(t, text)
	spoilCode := func() {
		c.Shared[0].Bits, c.Mutexes = 7, 0
		for _, b := range c.Bodies {
			for i := range b.Locals {
				b.Locals[i].Bits = 9
			}
			for i := range b.Nodes {
				for j := range b.Nodes[i].Code {
					b.Nodes[i].Code[j] = api.Instr{}
				}
				b.Nodes[i] = api.Node{}
			}
		}
		c.Bodies[0] = api.Body{}
	}
	whole := begun(t, same, 50, 500)
	checkRun(t, whole, 5, 5)
	s := begun(t, c, 50, 500)
	spoilCode()
	checkRun(t, s, 5, 5)
	f := s.Frontier()
	kept := s.Frontier()
	c = compiled(t, text)
	other := restored(t, c, 50, 500, f)
	spoilCode()
	for _, list := range [][]int{f.Path, f.Back, f.Asleep} {
		for i := range list[:cap(list)] {
			list[:cap(list)][i] = 99
		}
	}
	for _, s := range []*search.Search{whole, s, other} {
		checkFrontier(t, s, kept)
		s.Run(500)
		v := s.Verdict()
		if v.Kind != api.Fails {
			t.Fatal(v)
		}
		want := slices.Clone(v.Schedule)
		v.Schedule[0] = 9
		s.Frontier().Verdict.Schedule[1] = 9
		f = s.Frontier()
		again := restored(t, same, 50, 500, f)
		f.Verdict.Schedule[0] = 8
		for _, s := range []*search.Search{s, again} {
			checkEnd(t, s, fails(v.How, v.Who, want...), whole.Played(), whole.Charged())
		}
	}
	if !code.Same(same, compiled(t, text)) {
		t.Error("the code was changed")
	}
}

// Paths that are longer than a trace may be.
func TestLongPaths(t *testing.T) {
	for _, x := range []struct {
		text string
		want int
	}{
		{"shared x int; thread a { local i int; while i < 350 { x = i; i = i + 1; } } thread b { x = 7; }", 351},
		{"shared x int; thread b { x = 7; } thread a { local i int; while i < 350 { x = i; i = i + 1; } }", 351},
		{"mutex m; thread a { local i int; while i < 300 { lock m; unlock m; i = i + 1; } } thread b { lock m; unlock m; }", 301},
		{"shared x int; shared y int; thread a { local i int; while i < 400 { i = i + 1; } x = 1; } thread b { local i int; while i < 400 { i = i + 1; } y = 1; }", 1},
		{"shared x int; thread a { x = 1; } thread b { local i int; local j int; while i < 300 { i = i + 1; } j = x; while i < 600 { i = i + 1; } j = x; }", 3},
	} {
		c := compiled(t, x.text)
		s := begun(t, c, 65536, 1<<40)
		charged, longest := 0, 0
		for slice := 0; s.Verdict().Kind == api.Open; slice++ {
			f := s.Frontier()
			longest = max(longest, len(f.Path))
			if slice%16 == 3 {
				s = restored(t, c, 65536, 1<<40, f)
				checkFrontier(t, s, f)
			}
			n, _ := s.Run(1500)
			charged += n
		}
		if longest <= api.MaxEvents {
			t.Error("no path is long:", longest)
		}
		checkEnd(t, s, safe(), x.want, charged)
		whole := begun(t, c, 65536, 1<<40)
		checkRun(t, whole, 1<<40, charged)
		checkFrontier(t, whole, s.Frontier())
	}
}

// The limits themselves: a path as long as one thread can make it, of as many threads as there may be.
func TestLongestWork(t *testing.T) {
	for _, threads := range []int{1, 16} {
		c := passes(threads)
		s := begun(t, c, 65536, 1<<40)
		checkRun(t, s, 65535, 65535)
		f := s.Frontier()
		checkFrontier(t, s, api.Frontier{Path: times(65536, 0), Back: times(65536, 1), Asleep: times(65536, 0), Charged: 65535})
		for _, s := range []*search.Search{s, restored(t, c, 65536, 1<<40, f)} {
			checkRun(t, s, 1<<40, 1)
			checkEnd(t, s, fails(api.Overrun, 0, times(65537, 0)...), 0, 65536)
		}
	}
	long := api.Frontier{Path: times(1048578, 0), Back: times(1048578, 1), Asleep: times(1048578, 0)}
	if s, err := search.Restore(passes(16), 65536, 9, long); s != nil || err != api.ErrBroken {
		t.Error(s != nil, err)
	}
}
