package witness_test

import (
	"math/rand"
	"slices"
	"strings"
	"testing"
	"unsafe"

	"assize/api"
	"assize/compile"
	"assize/parse"
	"assize/sample"
	"assize/search"
	"assize/sem"
	"assize/tree"
	"assize/witness"
)

// texts are programs of which a schedule fails, or that come close to it.
func texts() []string {
	return []string{
		"shared x int; thread a { x = 1; x = 0; } thread b { assert x == 0; }",
		"mutex m; mutex n; thread a { lock m; lock n; unlock n; unlock m; } thread b { lock n; lock m; unlock m; unlock n; }",
		"shared x int; thread a { local i int; while i < 3 { i = i + 1; x = i; } } thread b { local i int; i = x; assert 6 / (i - 2) < 2; }",
		"shared x int; thread a { while x == 0 { skip; } } thread b { x = 1; }",
		"shared x bool; mutex m; thread a { if x { lock m; unlock m; } else { unlock m; } } thread b { x = true; } thread c { lock m; if x { unlock m; } }",
		"shared x real; shared y real = -0.5; thread a { x = 1.0 / 0.0; x = -1.5; } thread b { local r real; r = x; y = r * 0.0; r = y; assert r == r; }",
		"shared x int; thread a { local i int; i = x; x = i + 1; } thread b { local i int; i = x; x = i + 1; } thread c { if x == 2 { assert false; } }",
	}
}

// aProgram makes a program: one of these, or any other one.
func aProgram(t testing.TB, pick sample.Pick) api.Program {
	t.Helper()
	if pick(3) == 0 {
		return program(t, texts()[pick(len(texts()))])
	}
	return sample.Program(pick)
}

// aLimit makes a limit of work, mostly one that is enough.
func aLimit(pick sample.Pick) int {
	if pick(4) == 0 {
		return 1 + pick(12)
	}
	return 20 + pick(100)
}

// aSchedule makes a schedule of at most so many steps that can be made.
func aSchedule(t testing.TB, p api.Program, work, most int, pick sample.Pick) []int {
	t.Helper()
	r, err := sem.New(p, work)
	if err != api.OK {
		t.Fatal(err)
	}
	var list []int
	for how, _ := r.End(); how == api.Running && len(list) < most; how, _ = r.End() {
		th := pick(len(p.Threads))
		if r.Can(th) {
			r.Step(th)
			list = append(list, th)
		}
	}
	return list
}

// P18.1: stories and lines are those that a second teller tells.
func TestStoriesAtRandom(t *testing.T) {
	random := rand.New(rand.NewSource(1))
	ends, refused := map[int]int{}, 0
	for range 8000 {
		p := aProgram(t, random.Intn)
		work := aLimit(random.Intn)
		list := aSchedule(t, p, work, 1+random.Intn(60), random.Intn)
		s, err := againstSecond(t, p, work, list)
		if err != api.OK || len(s.Marks) != len(list) {
			t.Fatal(err, list)
		}
		ends[s.How]++
		if len(list) > 0 {
			list[random.Intn(len(list))] = random.Intn(len(p.Threads)+2) - 1
		}
		if random.Intn(2) == 0 {
			list = append(list, random.Intn(len(p.Threads)))
		}
		if _, err := againstSecond(t, p, work, list); err != api.OK {
			refused++
		}
	}
	for how := api.Running; how <= api.Overrun; how++ {
		if ends[how] < 150 {
			t.Error("too few of", how, ends)
		}
	}
	if refused < 1000 {
		t.Error(refused)
	}
}

// P18.2: of all ends and threads just those are proved by which the story ends.
func TestProvesAtRandom(t *testing.T) {
	random := rand.New(rand.NewSource(2))
	proved := 0
	for range 3000 {
		p := aProgram(t, random.Intn)
		work := aLimit(random.Intn)
		list := aSchedule(t, p, work, 1+random.Intn(60), random.Intn)
		s, _ := secondStory(p, work, list)
		for how := api.Failed; how <= api.Overrun; how++ {
			for who := -1; who <= len(p.Threads); who++ {
				want := how == s.How && who == s.Who
				checkProved(t, p, work, how, who, list, want)
				if want {
					proved++
				}
			}
		}
	}
	if proved < 500 {
		t.Error(proved)
	}
}

// fault tells what a search of a program's code finds.
func fault(t testing.TB, p api.Program, work, budget int) api.Verdict {
	t.Helper()
	c, err := compile.Compile(p)
	if err != api.OK {
		t.Fatal(err)
	}
	s, err := search.New(c, work, budget)
	if err != api.OK {
		t.Fatal(err)
	}
	s.Run(budget)
	return s.Verdict()
}

// P18.3: what a search tells as Fails is proved by it, and no shorter beginning of the schedule ends; other verdicts are not proved.
func TestSearchesAreProved(t *testing.T) {
	random := rand.New(rand.NewSource(3))
	ends := map[int]int{}
	for range 3000 {
		p := aProgram(t, random.Intn)
		work := aLimit(random.Intn)
		v := fault(t, p, work, 3000)
		if witness.Proves(p, work, v) != (v.Kind == api.Fails) {
			t.Fatal(short(p), work, v)
		}
		if v.Kind != api.Fails {
			continue
		}
		ends[v.How]++
		for n := range v.Schedule {
			s, err := witness.Story(p, work, v.Schedule[:n])
			if s.How != api.Running || s.Who != -1 || err != api.OK {
				t.Fatal(short(p), work, v, n, s.How, s.Who, err)
			}
			checkProved(t, p, work, v.How, v.Who, v.Schedule[:n], false)
		}
		for th := range p.Threads {
			checkRefused(t, p, work, append(slices.Clone(v.Schedule), th), api.ErrState)
		}
	}
	for how := api.Failed; how <= api.Overrun; how++ {
		if ends[how] < 50 {
			t.Error("too few of", how, ends)
		}
	}
}

// A search's schedule of 1,024 steps is proved, and one of 1,025 is not.
func TestLongSearches(t *testing.T) {
	p := program(t, "shared x int; thread a { x = 1; } thread t { while true { } }")
	for work, steps := range map[int]int{2044: 1024, 2045: 1024, 2046: 1025, 2047: 1025} {
		v := fault(t, p, work, 1<<20)
		if v.Kind != api.Fails || len(v.Schedule) != steps {
			t.Fatal(work, v.Kind, len(v.Schedule))
		}
		if witness.Proves(p, work, v) != (steps == 1024) {
			t.Error(work, steps)
		}
	}
}

// firstMark tells how it is ahead of a schedule, as a mark of a thread.
func firstMark(p api.Program, th int) api.Mark {
	m := api.Mark{Thread: th}
	for _, v := range p.Shared {
		m.Shared = append(m.Shared, v.First)
	}
	for _, v := range p.Threads[th].Locals {
		m.Locals = append(m.Locals, v.First)
	}
	return m
}

// P18.3: of the shared variables a step changes that of a Writes' event alone; of locals no other thread's; and no value's type.
func TestWhatMarksSay(t *testing.T) {
	random := rand.New(rand.NewSource(4))
	written := 0
	for range 3000 {
		p := aProgram(t, random.Intn)
		work := aLimit(random.Intn)
		list := aSchedule(t, p, work, 60, random.Intn)
		s, err := witness.Story(p, work, list)
		if err != api.OK {
			t.Fatal(err)
		}
		last := map[int]api.Mark{}
		before := firstMark(p, 0).Shared
		for i, m := range s.Marks {
			if m.Thread != list[i] || m.Event.Thread != list[i] {
				t.Fatal(i, m, list)
			}
			own, there := last[m.Thread]
			if !there {
				own = firstMark(p, m.Thread)
			}
			for at, v := range m.Shared {
				may := m.Event.Kind == api.Writes && m.Event.Object == at
				if v != before[at] && !may || v.T != before[at].T {
					t.Fatal(short(p), list, i, m)
				}
				if v != before[at] {
					written++
				}
			}
			checkStatement(t, p, own, m)
			last[m.Thread], before = m, m.Shared
		}
	}
	if written < 1000 {
		t.Error(written)
	}
}

// checkStatement fails if a mark changes another local than its statement, or tells another event than that may be.
func checkStatement(t *testing.T, p api.Program, before, m api.Mark) {
	t.Helper()
	st, err := compile.Statement(p, m.Thread, m.Stmt)
	if err != api.OK {
		t.Fatal(short(p), m, err)
	}
	for at, v := range m.Locals {
		name := p.Threads[m.Thread].Locals[at].Name
		if v != before.Locals[at] && (st.Kind != api.Assign || st.Name != name) || v.T != before.Locals[at].T {
			t.Fatal(short(p), m, st)
		}
	}
	kinds := map[int][]int{
		api.Assign: {api.Local, api.Reads, api.Writes}, api.Lock: {api.Locks}, api.Unlock: {api.Unlocks}, api.Skip: {api.Local},
		api.Assert: {api.Local, api.Reads}, api.If: {api.Local, api.Reads}, api.While: {api.Local, api.Reads},
	}
	if !slices.Contains(kinds[st.Kind], m.Event.Kind) {
		t.Fatal(short(p), m, st)
	}
}

// Statements' expressions may be great: all is told in time.
func TestGreatExpressions(t *testing.T) {
	e := api.Expr{Op: api.Lit, Lit: api.Value{T: api.Bool, Bits: 1}}
	for range 12 {
		e = api.Expr{Op: api.And, Kids: []api.Expr{e, e}}
	}
	p := api.Program{Threads: []api.Thread{{Name: "t", Body: []api.Stmt{{Kind: api.While, E: e, Body: []api.Stmt{{Kind: api.Skip}, {Kind: api.If, E: e}}}}}}}
	text, err := tree.Expr(e)
	if err != api.OK {
		t.Fatal(err)
	}
	checkLines(t, p, 65536, schedule("0 0 0 0"), "0 t while "+text+" {}", "1 t skip;", "2 t if "+text+" {}", "3 t while "+text+" {}", "running")
	s, err := witness.Story(p, 65536, times(12, 0))
	if s.How != api.Overrun || len(s.Marks) != 12 || s.Marks[11].Stmt != 2 || err != api.OK {
		t.Error(s.How, len(s.Marks), err)
	}
}

// Rules 3, 4 and 8: nothing that is handed in is changed, and what is told is told again.
func TestNothingIsChanged(t *testing.T) {
	random := rand.New(rand.NewSource(5))
	for range 2000 {
		p := aProgram(t, random.Intn)
		work := aLimit(random.Intn)
		list := aSchedule(t, p, work, 40, random.Intn)
		if random.Intn(4) == 0 {
			list = append(list, -1)
		}
		keptProgram, kept := tree.Copy(p), slices.Clone(list)
		s, err := witness.Story(p, work, list)
		l, _ := witness.Lines(p, work, list)
		proved := witness.Proves(p, work, api.Verdict{Kind: api.Fails, How: s.How, Who: s.Who, Schedule: list})
		if !tree.Same(p, keptProgram) || !slices.Equal(list, kept) || proved != (err == api.OK) {
			t.Fatal(short(p), list, proved, err)
		}
		again, errAgain := witness.Story(p, work, list)
		linesAgain, _ := witness.Lines(p, work, list)
		if !sameStory(again, s) || errAgain != err || !slices.Equal(linesAgain, l) {
			t.Fatal(short(p), list)
		}
	}
}

// memory is where something lies, its spare room too.
type memory struct{ from, to uintptr }

// lies tells where a list lies.
func lies[T any](l []T) memory {
	from := uintptr(unsafe.Pointer(unsafe.SliceData(l)))
	return memory{from, from + unsafe.Sizeof(*new(T))*uintptr(cap(l))}
}

// checkApart fails if any two share a byte.
func checkApart(t *testing.T, places []memory) {
	t.Helper()
	slices.SortFunc(places, func(a, b memory) int { return int(a.from) - int(b.from) })
	for i := range len(places) - 1 {
		if places[i].to > places[i+1].from {
			t.Error("memory is shared")
		}
	}
}

// Rule 4: an answer is new memory, and no two lists of one share any.
func TestNewMemory(t *testing.T) {
	p := program(t, "shared x int; shared y real; thread a { local i int; x = 1; i = x; while i < 9 { i = i + x; } }")
	list := times(12, 0)
	var places []memory
	for range 2 {
		s, err := witness.Story(p, 100, list)
		l, _ := witness.Lines(p, 100, list)
		if err != api.OK || len(l) != 13 {
			t.Fatal(err, l)
		}
		places = append(places, lies(s.Marks), lies(l))
		for _, m := range s.Marks {
			places = append(places, lies(m.Shared), lies(m.Locals))
		}
	}
	checkApart(t, append(places, lies(list), lies(p.Shared), lies(p.Threads), lies(p.Threads[0].Locals), lies(p.Threads[0].Body)))
	one, _ := witness.Story(p, 100, list)
	two, _ := witness.Story(p, 100, list)
	for _, m := range one.Marks {
		for _, l := range [][]api.Value{m.Shared, m.Locals} {
			for i := range l[:cap(l)] {
				l[:cap(l)][i] = api.Value{T: 9}
			}
		}
	}
	checkStory(t, p, 100, list, two)
}

// Rule 4: the room behind the end of a schedule is neither read, nor written.
func TestSpareRoom(t *testing.T) {
	p := program(t, "shared x int; thread a { x = 1; assert x == 2; } thread b { x = 2; }")
	room := []int{0, 0, -7, 99}
	list := room[:2]
	checkLines(t, p, 100, list, "0 a x = 1; // x = 1", "1 a assert (x == 2); // read x", "assert failed in a")
	checkProved(t, p, 100, api.Failed, 0, list, true)
	checkProved(t, p, 100, api.Failed, 0, room[:3], false)
	if !slices.Equal(room, []int{0, 0, -7, 99}) {
		t.Error("spare room was written:", room)
	}
	p.Shared = append(p.Shared, api.Var{})[:1]
	p.Threads = append(p.Threads, api.Thread{})[:2]
	checkLines(t, p, 100, []int{1}, "0 b x = 2; // x = 2", "running")
}

// A line has no end of a line in it, and begins with its number.
func TestLinesAreLines(t *testing.T) {
	random := rand.New(rand.NewSource(6))
	for range 1000 {
		p := aProgram(t, random.Intn)
		list := aSchedule(t, p, 60, 60, random.Intn)
		l, err := witness.Lines(p, 60, list)
		if err != api.OK || len(l) != len(list)+1 {
			t.Fatal(err, len(l), len(list))
		}
		for _, line := range l {
			if strings.ContainsAny(line, "\n\r\t") || strings.Contains(line, "  ") || line != strings.TrimSpace(line) {
				t.Fatalf("%q", line)
			}
		}
	}
}

// FuzzStories looks for a schedule of a program of which another story is told than by the second teller.
func FuzzStories(f *testing.F) {
	for _, text := range texts() {
		f.Add(text, []byte{0, 1, 0, 1, 1, 0}, 100)
		f.Add(text, []byte{2, 0, 0, 1}, 7)
	}
	f.Add("thread t { local i int; while i < 2 { if i == 0 { skip; } else { while i < 2 { i = 2; } } i = i + 1; } skip; }", make([]byte, 12), 50)
	f.Fuzz(func(t *testing.T, text string, schedule []byte, work int) {
		p, fault := parse.Parse(text)
		if fault.Err != api.OK {
			return
		}
		if _, err := tree.Print(p); err != api.OK {
			return
		}
		var list []int
		for _, b := range schedule {
			list = append(list, int(int8(b)))
		}
		s, err := againstSecond(t, p, work, list)
		checkProved(t, p, work, s.How, s.Who, list, err == api.OK)
	})
}
