package search_test

import (
	"fmt"
	"math/rand"
	"slices"
	"strconv"
	"strings"
	"testing"

	"assize/api"
	"assize/compile"
	"assize/dep"
	"assize/norm"
	"assize/parse"
	"assize/sample"
	"assize/search"
	"assize/vm"
)

// aStatement makes the text of a statement that is likely to be in a race, and now and then to fail.
func aStatement(pick sample.Pick, deep int) string {
	list := []string{"x = 1;", "x = i;", "x = 2;", "y = i + 1;", "y = 0;", "i = x;", "i = y;", "i = i + 1;", "skip;"}
	risky := []string{"lock m;", "unlock m;", "lock n;", "unlock n;", "assert i < 3;", "assert x < 2;", "i = 6 / (y - 1);"}
	switch pick(14) {
	case 0:
		if deep > 0 {
			return "if x == i { " + someStatements(pick, 2, deep-1) + "} else { " + someStatements(pick, 2, deep-1) + "}"
		}
	case 1:
		if deep > 0 {
			return "while i < 2 { i = i + 1; " + someStatements(pick, 2, deep-1) + "}"
		}
	case 2, 3:
		return "lock m; " + someStatements(pick, 2, deep) + "unlock m;"
	case 4:
		return "lock n; " + someStatements(pick, 1, deep) + "unlock n;"
	case 5:
		return risky[pick(len(risky))]
	}
	return list[pick(len(list))]
}

// someStatements makes the text of at most so many statements.
func someStatements(pick sample.Pick, most, deep int) string {
	text := ""
	for range pick(most + 1) {
		text += aStatement(pick, deep) + " "
	}
	return text
}

// aProgram makes the text of a program whose threads are in each other's way.
func aProgram(pick sample.Pick) string {
	text := "shared x int; shared y int; mutex m; mutex n; "
	count := 1 + pick(4)
	for t := range count {
		text += "thread t" + strconv.Itoa(t) + " { local i int; " + someStatements(pick, 6-count, 1) + "} "
	}
	return text
}

// aCode makes a code: of such a program, of another one, or of none.
func aCode(t *testing.T, pick sample.Pick) api.Code {
	t.Helper()
	switch pick(4) {
	case 0:
		return sample.Code(pick)
	case 1:
		c, err := compile.Compile(sample.Program(pick))
		if err != api.OK {
			t.Fatal(err)
		}
		return c
	}
	return compiled(t, aProgram(pick))
}

// aLimit makes a limit of work, mostly one that is enough.
func aLimit(pick sample.Pick) int {
	if pick(4) == 0 {
		return 1 + pick(12)
	}
	return 20 + pick(40)
}

// withBudget tells a stand of a search without a budget as one with it.
func withBudget(f api.Frontier, budget int) api.Frontier {
	if f.Verdict.Kind == api.Open && f.Charged == budget {
		return api.Frontier{Played: f.Played, Charged: f.Charged, Verdict: spent()}
	}
	return f
}

// beside lets a search go instruction by instruction beside the second one; it tells where it came to its end.
func beside(t *testing.T, c api.Code, work, budget int) api.Frontier {
	t.Helper()
	s := begun(t, c, work, budget)
	for f := range secondStands(c, work) {
		f = withBudget(f, budget)
		checkFrontier(t, s, f)
		if f.Verdict.Kind != api.Open {
			checkRun(t, s, 1+f.Charged, 0)
			checkFrontier(t, s, f)
			return f
		}
		checkRun(t, s, 0, 0)
		checkRun(t, s, 1, 1)
	}
	t.Fatal("the second search has no end")
	return api.Frontier{}
}

// Each stand of a search is the one that the chapter's words tell.
func TestSearchesAtRandom(t *testing.T) {
	random := rand.New(rand.NewSource(1))
	kinds, hows := map[int]int{}, map[int]int{}
	for range 1500 {
		c, work := aCode(t, random.Intn), aLimit(random.Intn)
		f := beside(t, c, work, []int{600, 40}[random.Intn(2)]*random.Intn(100)/100)
		kinds[f.Verdict.Kind]++
		hows[f.Verdict.How]++
	}
	for kind := api.Safe; kind <= api.Spent; kind++ {
		if kinds[kind] < 100 {
			t.Error("too few of", kind, kinds)
		}
	}
	for how := api.Failed; how <= api.Overrun; how++ {
		if hows[how] < 30 {
			t.Error("too few of", how, hows)
		}
	}
}

// endings is what all schedules of a code come to.
type endings struct {
	schedules int
	classes   map[string]int // of the schedules that end by Done, by their least forms
	fail      bool
}

// least tells the least form of a schedule's events as a text.
func least(t testing.TB, c api.Code, work int, schedule []int) string {
	t.Helper()
	events, m, err := dep.Play(c, work, schedule)
	if err != api.OK {
		t.Fatal(err, schedule)
	}
	order, err := norm.Least(events, m.Threads())
	if err != api.OK {
		t.Fatal(err)
	}
	var form strings.Builder
	for _, i := range order {
		fmt.Fprint(&form, events[i])
	}
	return form.String()
}

// playAll plays all schedules of a code, unless there are more than so many; it tells whether there are not.
func playAll(t *testing.T, c api.Code, work, most int) (endings, bool) {
	t.Helper()
	all := endings{classes: map[string]int{}}
	var play func(m *vm.Machine, schedule []int)
	play = func(m *vm.Machine, schedule []int) {
		how, _ := m.End()
		if how != api.Running {
			all.schedules++
			all.fail = all.fail || how != api.Done
			if how == api.Done {
				all.classes[least(t, c, work, schedule)]++
			}
			return
		}
		for th := 0; th < m.Threads() && all.schedules <= most; th++ {
			if m.Can(th) {
				next := m.Clone()
				next.Step(th)
				play(next, append(slices.Clone(schedule), th))
			}
		}
	}
	m, err := vm.New(c, work)
	if err != api.OK {
		t.Fatal(err)
	}
	play(m, nil)
	return all, all.schedules <= most
}

// runWatched runs a search to its end, instruction by instruction; it tells the least forms of the schedules that were played.
func runWatched(t *testing.T, c api.Code, work, budget int) (*search.Search, map[string]int) {
	t.Helper()
	s := begun(t, c, work, budget)
	forms := map[string]int{}
	if s.Played() > 0 {
		forms[least(t, c, work, nil)]++
	}
	for s.Verdict().Kind == api.Open {
		ahead := s.Frontier()
		checkRun(t, s, 1, 1)
		if s.Played() > ahead.Played+1 {
			t.Fatal("an instruction came to the end of two schedules")
		}
		if s.Played() > ahead.Played {
			forms[least(t, c, work, ahead.Path)]++
		}
	}
	return s, forms
}

// P16.3: safe is told just if no schedule fails, and each schedule is played but for those that are equivalent to others; what is told to fail fails so.
func TestAllSchedules(t *testing.T) {
	random := rand.New(rand.NewSource(2))
	seen, most := map[int]int{}, 0
	for range 1500 {
		c, work := aCode(t, random.Intn), aLimit(random.Intn)
		all, few := playAll(t, c, work, 1500)
		if few {
			s := checkAll(t, c, work, all)
			seen[s.Verdict().Kind]++
			most = max(most, s.Played())
		}
	}
	if seen[api.Safe] < 300 || seen[api.Fails] < 300 || most < 50 {
		t.Error("too few of one verdict:", seen, most)
	}
}

// The same of all programs of three threads with two statements each, of few kinds.
func TestAllSmallPrograms(t *testing.T) {
	list := []string{"x = 1;", "i = x;", "lock m;", "unlock m;", "assert i == 0;"}
	number := len(list) * len(list)
	var bodies []string
	for i := range number {
		bodies = append(bodies, "{ local i int; "+list[i/len(list)]+" "+list[i%len(list)]+" } ")
	}
	seen := map[int]int{}
	for a := range number {
		for b := range number {
			for c := range b + 1 {
				code := compiled(t, "shared x int; mutex m; thread a "+bodies[a]+"thread b "+bodies[b]+"thread c "+bodies[c])
				all, _ := playAll(t, code, 9, 1000)
				seen[checkAll(t, code, 9, all).Verdict().Kind]++
			}
		}
	}
	if seen[api.Safe] < 500 || seen[api.Fails] < 500 {
		t.Error("too few of one verdict:", seen)
	}
}

// checkAll runs a search of a code, and holds what it comes to against all of the code's schedules.
func checkAll(t *testing.T, c api.Code, work int, all endings) *search.Search {
	t.Helper()
	// P16.4: a budget that is enough for all schedules is enough.
	s, forms := runWatched(t, c, work, all.schedules*len(c.Bodies)*work)
	v := s.Verdict()
	if (v.Kind == api.Fails) != all.fail || (v.Kind == api.Safe) == all.fail {
		t.Fatal(v, all.fail, c)
	}
	for form, count := range forms {
		if count > 1 || all.classes[form] == 0 {
			t.Fatal(form, "was played", count, c)
		}
	}
	switch v.Kind {
	case api.Safe:
		if len(forms) != s.Played() || s.Played() != len(all.classes) {
			t.Fatal(s.Played(), len(forms), len(all.classes), c)
		}
	case api.Fails:
		checkProof(t, c, work, v)
	}
	return s
}

// checkProof fails if what is told to fail does not fail so.
func checkProof(t *testing.T, c api.Code, work int, v api.Verdict) {
	t.Helper()
	m, err := vm.New(c, work)
	if err != api.OK {
		t.Fatal(err)
	}
	for _, th := range v.Schedule {
		if _, _, err := m.Step(th); err != api.OK {
			t.Fatal(err, th)
		}
	}
	if how, who := m.End(); how != v.How || who != v.Who {
		t.Fatal(short(v), how, who)
	}
}

// P16.4: in slices, put down and taken up between them, or not, a search comes to the same as at once.
func TestSlicesAtRandom(t *testing.T) {
	random := rand.New(rand.NewSource(3))
	for range 1500 {
		c, work, budget := aCode(t, random.Intn), aLimit(random.Intn), random.Intn(2000)
		whole := begun(t, c, work, budget)
		total, _ := whole.Run(budget)
		s := begun(t, c, work, budget)
		charged := 0
		for s.Verdict().Kind == api.Open {
			n := random.Intn(30)
			done, err := s.Run(n)
			charged += done
			if err != api.OK || done > n || done < n && s.Verdict().Kind == api.Open || s.Charged() != charged {
				t.Fatal(n, done, err, s.Charged(), charged)
			}
			if random.Intn(2) == 0 {
				f := s.Frontier()
				s = restored(t, c, work, budget, f)
				checkFrontier(t, s, f)
			}
		}
		checkFrontier(t, s, whole.Frontier())
		checkFrontier(t, restored(t, c, work, budget, s.Frontier()), whole.Frontier())
		if total != charged {
			t.Fatal(total, charged)
		}
	}
}

// P16.4: Spent is told just when as much as the budget was charged, and it was not enough.
func TestBudgets(t *testing.T) {
	random := rand.New(rand.NewSource(4))
	for range 300 {
		c, work := aCode(t, random.Intn), aLimit(random.Intn)
		s := begun(t, c, work, 1000)
		need, _ := s.Run(1000)
		if s.Verdict().Kind == api.Spent {
			continue
		}
		for _, budget := range []int{0, 1, need / 2, need - 1, need, need + 1, 1 << 40} {
			if budget < 0 {
				continue
			}
			other := begun(t, c, work, budget)
			checkRun(t, other, 1<<62, min(need, budget))
			if budget < need {
				checkEnd(t, other, spent(), other.Played(), budget)
			} else {
				checkFrontier(t, other, s.Frontier())
			}
		}
	}
}

// spoiled changes one thing of a frontier: mostly slightly, so that it may often still be.
func spoiled(pick sample.Pick, f api.Frontier, budget int) api.Frontier {
	f.Path, f.Back, f.Asleep = slices.Clone(f.Path), slices.Clone(f.Back), slices.Clone(f.Asleep)
	at := 0
	if len(f.Path) > 0 {
		at = pick(len(f.Path))
	}
	odd := []int{-1, -2, 0, 1, 2, 3, 16, 1 << 16, 1 << 40, -1 << 63}
	switch pick(16) {
	case 0, 1, 2:
		if len(f.Back) > 0 {
			f.Back[at] ^= 1 << pick(4)
		}
	case 3, 4, 5:
		if len(f.Asleep) > 0 {
			f.Asleep[at] ^= 1 << pick(4)
		}
	case 6:
		if len(f.Path) > 0 {
			f.Path[at] = pick(5) - 1
		}
	case 7:
		f.Done += pick(5) - 2
	case 8:
		f.Path, f.Back, f.Asleep = f.Path[:at], f.Back[:at], f.Asleep[:at]
		f.Done = pick(2)
	case 9:
		f.Path = append(f.Path, pick(3))
		f.Back = append(f.Back, pick(8))
		f.Asleep = append(f.Asleep, pick(8))
		f.Done = pick(2)
	case 10:
		f.Charged = []int{-1, 0, 1, budget - 1, budget, budget + 1, f.Charged + 1}[pick(7)]
	case 11:
		f.Played = odd[pick(len(odd))]
	case 12:
		f.Verdict.Kind = pick(6) - 1
	case 13:
		f.Verdict.How, f.Verdict.Who = pick(8)-1, pick(5)-1
	case 14:
		f.Verdict.Schedule = append(slices.Clone(f.Verdict.Schedule), pick(5)-1)
	case 15:
		if len(f.Back) > 0 {
			f.Back[at], f.Asleep[pick(len(f.Asleep))] = odd[pick(len(odd))], odd[pick(len(odd))]
		}
	}
	return f
}

// onward lets a search that was made of a frontier go beside the second one, for some instructions.
func onward(t *testing.T, c api.Code, work, budget, steps int, f api.Frontier) {
	t.Helper()
	s := restored(t, c, work, budget, f)
	checkFrontier(t, s, f)
	if f.Verdict.Kind != api.Open {
		checkRun(t, s, 5, 0)
		checkFrontier(t, s, f)
		return
	}
	for want := range secondStandsFrom(c, work, f) {
		want = withBudget(want, budget)
		checkFrontier(t, s, want)
		if steps--; steps < 0 || want.Verdict.Kind != api.Open {
			return
		}
		checkRun(t, s, 1, 1)
	}
}

// P16.1: which frontiers may be; each one that may be is gone on from, though no search comes to it.
func TestFrontiersAtRandom(t *testing.T) {
	random := rand.New(rand.NewSource(5))
	may, other := 0, 0
	for range 6000 {
		c, work, budget := aCode(t, random.Intn), aLimit(random.Intn), random.Intn(500)
		s := begun(t, c, work, budget)
		s.Run(random.Intn(250))
		f := s.Frontier()
		for range 1 + random.Intn(3) {
			f = spoiled(random.Intn, f, budget)
		}
		if secondMayBe(c, work, budget, f) {
			may++
			onward(t, c, work, budget, 60, f)
			continue
		}
		other++
		if s, err := search.Restore(c, work, budget, f); s != nil || err != api.ErrBroken {
			t.Fatalf("Restore(%s, %d, %d, %s) = %v, %v", short(c), work, budget, short(f), s != nil, err)
		}
	}
	if may < 1000 || other < 1000 {
		t.Error("too few:", may, other)
	}
}

// FuzzPrograms lets the searches of programs go beside the second one.
func FuzzPrograms(f *testing.F) {
	f.Add("shared x int; mutex m; thread a { x = 1; lock m; } thread b { local i int; i = x; lock m; unlock m; } thread c { x = 3; }", 20, 300)
	f.Add("mutex m; mutex n; thread a { lock m; lock n; unlock n; unlock m; } thread b { lock n; lock m; unlock m; unlock n; }", 9, 99)
	f.Add("shared x int; thread a { local i int; while i < 2 { i = i + 1; x = i; } } thread b { assert 1 / (x - 1) < 2; }", 30, 500)
	f.Fuzz(func(t *testing.T, text string, work, budget int) {
		p, fault := parse.Parse(text)
		if fault.Err != api.OK {
			return
		}
		c, err := compile.Compile(p)
		if err != api.OK || work < 1 || work > api.MaxWork || budget < 0 || budget > api.MaxTime {
			return
		}
		// The second search plays each path anew, so that long ones take long.
		beside(t, c, min(work, 60), min(budget, 600))
	})
}

// FuzzFrontiers takes up whatever frontiers may be.
func FuzzFrontiers(f *testing.F) {
	f.Add(int64(1), []byte{0, 1}, []byte{1, 2}, []byte{0, 0}, 0, 3)
	f.Add(int64(2), []byte{0, 0, 1}, []byte{3, 3, 2}, []byte{0, 2, 1}, 1, 0)
	f.Fuzz(func(t *testing.T, seed int64, path, back, asleep []byte, done, charged int) {
		ints := func(list []byte) []int {
			var numbers []int
			for _, b := range list {
				numbers = append(numbers, int(int8(b)))
			}
			return numbers
		}
		random := rand.New(rand.NewSource(seed))
		c, work, budget := aCode(t, random.Intn), aLimit(random.Intn), random.Intn(500)
		front := api.Frontier{Path: ints(path), Back: ints(back), Asleep: ints(asleep), Done: done, Charged: charged}
		if done < 1<<20 && secondMayBe(c, work, budget, front) {
			onward(t, c, work, budget, 40, front)
		} else if s, err := search.Restore(c, work, budget, front); s != nil || err != api.ErrBroken {
			t.Fatal(s != nil, err)
		}
	})
}
