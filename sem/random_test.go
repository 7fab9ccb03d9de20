package sem_test

import (
	"math/rand"
	"slices"
	"testing"

	"assize/api"
	"assize/parse"
	"assize/sample"
	"assize/sem"
)

// checkSame fails if a run and the second one are not the same in all that is told.
func checkSame(t *testing.T, r *sem.Run, s *secondRun) {
	t.Helper()
	checkEnd(t, r, s.how, s.who)
	for i, v := range r.Shared() {
		if v != s.values[s.p.Shared[i].Name] {
			t.Errorf("shared %d: %v", i, v)
		}
	}
	for i, holder := range r.Held() {
		want, taken := s.holder[s.p.Mutexes[i]]
		if taken != (holder >= 0) || taken && holder != want || holder < -1 {
			t.Errorf("mutex %d: %d", i, holder)
		}
	}
	if len(r.Shared()) != len(s.p.Shared) || len(r.Held()) != len(s.p.Mutexes) {
		t.Error(r.Shared(), r.Held())
	}
	for th := -1; th <= len(s.p.Threads); th++ {
		e, err := r.Next(th)
		want, wantErr := s.next(th)
		if e != want || err != wantErr || r.Can(th) != s.can(th) || r.Over(th) != s.over(th) {
			t.Errorf("thread %d: %v %v %v %v", th, e, err, r.Can(th), r.Over(th))
		}
		if th < 0 || th == len(s.p.Threads) {
			continue
		}
		if r.Work(th) != s.work[th] || len(r.Locals(th)) != len(s.p.Threads[th].Locals) {
			t.Errorf("thread %d: %v %v", th, r.Work(th), r.Locals(th))
		}
		for i, v := range r.Locals(th) {
			if v != s.values[own(th, s.p.Threads[th].Locals[i].Name)] {
				t.Errorf("thread %d: local %d: %v", th, i, v)
			}
		}
	}
}

// together plays a program and its second run by one schedule to the end; it tells how they ended.
func together(t *testing.T, p api.Program, limit int, pick sample.Pick) int {
	t.Helper()
	r, err := sem.New(p, limit)
	if err != api.OK {
		t.Fatal(err)
	}
	s := secondNew(p, limit)
	checkSame(t, r, s)
	steps := 0
	for s.how == api.Running && !t.Failed() {
		th := pick(len(p.Threads)+2) - 1
		e, err := r.Step(th)
		want, wantErr := s.step(th)
		if e != want || err != wantErr {
			t.Errorf("Step(%d) = %v, %v; not %v, %v", th, e, err, want, wantErr)
		}
		if err == api.OK {
			steps++
		}
		checkSame(t, r, s)
	}
	// P8.5: whatever the schedule
	if steps > len(p.Threads)*limit+1 {
		t.Errorf("%d steps of %d threads within %d", steps, len(p.Threads), limit)
	}
	return s.how
}

func TestRunsAtRandom(t *testing.T) {
	random := rand.New(rand.NewSource(1))
	seen := map[int]int{}
	for seed := range 6000 {
		p := sample.Program(random.Intn)
		limit := 1 + random.Intn(60)
		if seed%20 == 0 {
			limit = 1 + random.Intn(2000)
		}
		seen[together(t, p, limit, random.Intn)]++
		if t.Failed() {
			t.Fatal(seed, limit, p)
		}
	}
	for how := api.Done; how <= api.Overrun; how++ {
		if seen[how] < 100 {
			t.Error("too few of", how, seen)
		}
	}
}

// A clone is as its run, and each goes its own way.
func TestClones(t *testing.T) {
	random := rand.New(rand.NewSource(2))
	for range 1500 {
		p := sample.Program(random.Intn)
		limit := 1 + random.Intn(80)
		r, _ := sem.New(p, limit)
		s := secondNew(p, limit)
		for range random.Intn(12) {
			th := random.Intn(len(p.Threads))
			r.Step(th)
			s.step(th)
		}
		c, other := r.Clone(), r.Clone().Clone()
		for range 12 {
			c.Step(random.Intn(len(p.Threads)))
		}
		checkSame(t, r, s)
		checkSame(t, other, s)
		for range 12 {
			r.Step(random.Intn(len(p.Threads)))
		}
		for range 12 {
			th := random.Intn(len(p.Threads))
			other.Step(th)
			s.step(th)
		}
		checkSame(t, other, s)
		if t.Failed() {
			t.Fatal(p)
		}
	}
}

// P8.5: threads that may step do; values keep their types; a step touches its event's object alone; an error changes nothing.
func TestWhatAStepTouches(t *testing.T) {
	random := rand.New(rand.NewSource(3))
	for range 2000 {
		p := sample.Program(random.Intn)
		r, _ := sem.New(p, 1+random.Intn(80))
		for how := api.Running; how == api.Running; how, _ = r.End() {
			th := random.Intn(len(p.Threads))
			may, before := r.Can(th), r.Clone()
			e, err := r.Step(th)
			if may != (err == api.OK) {
				t.Fatal(may, err)
			}
			checkTouched(t, p, before, r, e, err)
			if t.Failed() {
				t.Fatal(p)
			}
		}
	}
}

func checkTouched(t *testing.T, p api.Program, before, after *sem.Run, e api.Event, err api.Errno) {
	t.Helper()
	for i, v := range after.Shared() {
		if v.T != p.Shared[i].First.T || v != before.Shared()[i] && (e.Kind != api.Writes || e.Object != i) {
			t.Errorf("shared %d: %v by %v", i, v, e)
		}
	}
	for i, holder := range after.Held() {
		if holder != before.Held()[i] && (e.Kind != api.Locks && e.Kind != api.Unlocks || e.Object != i) {
			t.Errorf("mutex %d: %d by %v", i, holder, e)
		}
	}
	for th := range p.Threads {
		mine := th == e.Thread && err == api.OK
		for i, v := range after.Locals(th) {
			if v.T != p.Threads[th].Locals[i].First.T {
				t.Errorf("local %d of %d: %v", i, th, v)
			}
		}
		if !mine && (after.Work(th) != before.Work(th) || after.Over(th) != before.Over(th) || !slices.Equal(after.Locals(th), before.Locals(th))) {
			t.Errorf("thread %d by %v", th, e)
		}
	}
}

// valueVars are variables of which expressions are made, with values of any kind.
func valueVars(pick sample.Pick) ([]api.Var, []string, []api.Value) {
	var vars []api.Var
	var names []string
	var values []api.Value
	for _, name := range []string{"a", "b", "c", "d", "e"} {
		v := sample.Value(pick, sample.Type(pick), true)
		vars = append(vars, api.Var{Name: name, First: v})
		names, values = append(names, name), append(values, v)
	}
	return vars, names, values
}

func TestValuesAtRandom(t *testing.T) {
	random := rand.New(rand.NewSource(4))
	trapped := 0
	for range 60000 {
		vars, names, values := valueVars(random.Intn)
		e := sample.Expr(random.Intn, sample.Type(random.Intn), 1+random.Intn(6), vars)
		want, n, trap := secondValue(e, func(name string) api.Value { return values[slices.Index(names, name)] })
		v, got, err := sem.Value(e, names, values)
		if v != want || got != n || trap != (err == api.ErrState) || !trap && err != api.OK {
			t.Fatalf("%v, %v: %v, %d, %v; not %v, %d", e, values, v, got, err, want, n)
		}
		if trap {
			trapped++
		}
	}
	if trapped < 2000 {
		t.Error(trapped)
	}
}

// Each operator at values of all kinds, one by one.
func TestEachOperator(t *testing.T) {
	ints := []int64{0, 1, -1, 2, -2, 3, 7, -7, 1 << 32, -1 << 32, 1<<53 + 1, 1<<63 - 1, -1 << 63, -1<<63 + 1}
	reals := []uint64{0, 1, 1 << 63, 1<<63 + 1, 0x3fe << 52, 0x3ff << 52, 0xbff << 52, 0x43e << 52, 0xc3e << 52, 0xc3e<<52 + 1, 0x43dfffffffffffff, 0x7fefffffffffffff, 0x7ff << 52, 0xfff << 52, api.NaN, 0x3fb999999999999a}
	kinds := [][]api.Value{nil, {truth(false), truth(true)}, nil}
	for _, n := range ints {
		kinds[0] = append(kinds[0], number(n))
	}
	for _, b := range reals {
		kinds[2] = append(kinds[2], api.Value{T: api.Real, Bits: b})
	}
	a, b := api.Expr{Op: api.Name, Name: "a"}, api.Expr{Op: api.Name, Name: "b"}
	fine := 0
	for _, values := range kinds {
		for _, x := range values {
			for _, y := range values {
				for op := api.Or; op <= api.ToReal; op++ {
					e := api.Expr{Op: op, Kids: []api.Expr{a, b}}
					if op >= api.Neg {
						e.Kids = e.Kids[:1]
					}
					list := []api.Value{x, y}
					v, n, err := sem.Value(e, []string{"a", "b"}, list)
					if err == api.ErrArg {
						continue
					}
					fine++
					want, ok := secondOp(op, list[:len(e.Kids)])
					if v != want || n != len(e.Kids)+1 || ok != (err == api.OK) || !ok && err != api.ErrState {
						t.Errorf("%d of %v: %v, %d, %v; not %v, %v", op, list, v, n, err, want, ok)
					}
				}
			}
		}
	}
	// Those of Ints, of Bools and of Reals: no more are of a type.
	if want := len(ints)*len(ints)*13 + 4*5 + len(reals)*len(reals)*12; fine != want {
		t.Error(fine, want)
	}
}

// FuzzRuns plays texts' programs by schedules.
func FuzzRuns(f *testing.F) {
	f.Add(example, []byte{1, 1, 0, 1}, 100)
	f.Add("shared x int; thread t { local i int; while i < 9 { i = i + 1; x = i / (i - 4); } } thread u { assert x < 3; }", []byte{0, 0, 1}, 70)
	f.Add("mutex m; mutex n; thread t { lock m; lock n; unlock m; } thread u { lock n; if true { lock m; } else { skip; } unlock m; }", []byte{0, 1}, 9)
	f.Fuzz(func(t *testing.T, text string, schedule []byte, limit int) {
		p, fault := parse.Parse(text)
		if fault.Err != api.OK {
			return
		}
		r, err := sem.New(p, limit)
		if err != api.OK {
			return
		}
		s := secondNew(p, limit)
		checkSame(t, r, s)
		for _, b := range schedule {
			th := int(int8(b))
			e, err := r.Step(th)
			if want, wantErr := s.step(th); e != want || err != wantErr {
				t.Errorf("Step(%d) = %v, %v; not %v, %v", th, e, err, want, wantErr)
			}
			checkSame(t, r, s)
		}
	})
}
