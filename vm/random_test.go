package vm_test

import (
	"bytes"
	"math"
	"math/rand"
	"slices"
	"testing"

	"assize/api"
	"assize/code"
	"assize/compile"
	"assize/parse"
	"assize/sample"
	"assize/sem"
	"assize/vm"
)

// checkSame fails if a machine and the second one are not the same in all that is told.
func checkSame(t *testing.T, m *vm.Machine, s *secondMachine) {
	t.Helper()
	checkEnd(t, m, s.how, s.who)
	checkShared(t, m, s.shared...)
	checkHeld(t, m, s.held...)
	if m.Busy() != s.busy() || m.Threads() != len(s.c.Bodies) || !bytes.Equal(m.State(), s.state()) {
		t.Errorf("busy %d, threads %d, state %v; not %d, %v", m.Busy(), m.Threads(), m.State(), s.busy(), s.state())
	}
	for th := -1; th <= len(s.c.Bodies); th++ {
		e, err := m.Next(th)
		want, wantErr := s.next(th)
		if e != want || err != wantErr || m.Can(th) != s.can(th) || m.Over(th) != s.over(th) {
			t.Errorf("thread %d: %v, %v, %v, %v", th, e, err, m.Can(th), m.Over(th))
		}
		if s.there(th) {
			checkLocals(t, m, th, s.locals[th]...)
			checkThread(t, m, th, s.place[th], s.work[th])
		}
	}
}

// checkBox fails if a thread works above the limit, or a stack is higher than its body says.
func checkBox(t *testing.T, m *vm.Machine, s *secondMachine) {
	t.Helper()
	for th, b := range s.c.Bodies {
		if m.Work(th) > s.limit || m.Work(th) < 0 {
			t.Errorf("thread %d works %d of %d", th, m.Work(th), s.limit)
		}
		if list, _ := s.stack(th, s.did[th]); len(list) > b.Stack {
			t.Errorf("thread %d: %d on a stack of %d", th, len(list), b.Stack)
		}
	}
}

// anAmount makes a number of instructions: mostly few, now and then below 0, none, or more than there are.
func anAmount(pick sample.Pick) int {
	switch pick(12) {
	case 0:
		return -1 - pick(3)
	case 1:
		return math.MaxInt
	case 2:
		return 0
	}
	return pick(6)
}

// move lets a machine and the second one do the same; it tells how many instructions.
func move(t *testing.T, m *vm.Machine, s *secondMachine, pick sample.Pick) int {
	t.Helper()
	th := pick(len(s.c.Bodies)+2) - 1
	if b := s.busy(); b >= 0 && pick(3) > 0 {
		th = b
	}
	if pick(3) == 0 {
		e, n, err := m.Step(th)
		if want, wantN, wantErr := s.step(th); e != want || n != wantN || err != wantErr {
			t.Errorf("Step(%d) = %v, %d, %v; not %v, %d, %v", th, e, n, err, want, wantN, wantErr)
		}
		return n
	}
	amount := anAmount(pick)
	n, over, err := m.Run(th, amount)
	if wantN, wantOver, wantErr := s.run(th, amount); n != wantN || over != wantOver || err != wantErr {
		t.Errorf("Run(%d, %d) = %d, %v, %v; not %d, %v, %v", th, amount, n, over, err, wantN, wantOver, wantErr)
	}
	return n
}

// together lets a machine and the second one go to the end; it tells how they ended.
func together(t *testing.T, c api.Code, limit int, pick sample.Pick) int {
	t.Helper()
	m, s := machine(t, c, limit), secondNew(c, limit)
	checkSame(t, m, s)
	total := 0
	for s.how == api.Running && !t.Failed() {
		total += move(t, m, s, pick)
		checkSame(t, m, s)
		checkBox(t, m, s)
	}
	// P11.5: whatever the code, whatever the schedule
	if total > len(c.Bodies)*limit {
		t.Errorf("%d instructions of %d threads within %d", total, len(c.Bodies), limit)
	}
	if how, _ := m.End(); !t.Failed() && how == api.Running {
		t.Error("it goes on")
	}
	// Behind the end nothing comes.
	for range 5 {
		move(t, m, s, pick)
	}
	checkSame(t, m, s)
	return s.how
}

func TestCodesAtRandom(t *testing.T) {
	random := rand.New(rand.NewSource(1))
	seen := map[int]int{}
	for range 8000 {
		c := sample.Code(random.Intn)
		limit := 1 + random.Intn(60)
		seen[together(t, c, limit, random.Intn)]++
		if t.Failed() {
			t.Fatal(limit, c)
		}
	}
	for how := api.Done; how <= api.Overrun; how++ {
		if seen[how] < 100 {
			t.Error("too few of", how, seen)
		}
	}
}

// Codes of programs, which go on for longer.
func TestCodesOfProgramsAtRandom(t *testing.T) {
	random := rand.New(rand.NewSource(2))
	for range 1500 {
		c, err := compile.Compile(sample.Program(random.Intn))
		if err != api.OK {
			t.Fatal(err)
		}
		limit := 1 + random.Intn(150)
		together(t, c, limit, random.Intn)
		if t.Failed() {
			t.Fatal(limit, c)
		}
	}
}

// P11.1: a clone is as its machine, in the midst of a step, too, and each goes its own way.
func TestClones(t *testing.T) {
	random := rand.New(rand.NewSource(3))
	midst := 0
	for range 3000 {
		c := sample.Code(random.Intn)
		limit := 1 + random.Intn(80)
		m, s := machine(t, c, limit), secondNew(c, limit)
		for range random.Intn(6) {
			move(t, m, s, random.Intn)
		}
		for th := range c.Bodies {
			m.Run(th, 2)
			s.run(th, 2)
		}
		if m.Busy() >= 0 {
			midst++
		}
		clone, other := m.Clone(), m.Clone().Clone()
		for range 12 {
			clone.Run(random.Intn(len(c.Bodies)), 1+random.Intn(4))
		}
		checkSame(t, m, s)
		checkSame(t, other, s)
		for range 12 {
			m.Run(random.Intn(len(c.Bodies)), 1+random.Intn(4))
		}
		for range 12 {
			move(t, other, s, random.Intn)
		}
		checkSame(t, other, s)
		if t.Failed() {
			t.Fatal(limit, c)
		}
	}
	if midst < 300 {
		t.Error("too few in the midst of a step:", midst)
	}
}

// inPieces does a thread's step piece by piece; it tells how many instructions were done.
func inPieces(t *testing.T, m *vm.Machine, th int, pick sample.Pick) int {
	t.Helper()
	total := 0
	for {
		n := pick(4)
		done, over, err := m.Run(th, n)
		total += done
		if done > n || !over && done < n || err != api.OK {
			t.Fatalf("Run(%d, %d) = %d, %v, %v", th, n, done, over, err)
		}
		if over {
			return total
		}
		if busy := m.Busy(); busy != th && (total > 0 || busy >= 0) {
			t.Fatal(total, busy)
		}
	}
}

// P11.5: in pieces or at once a step comes to the same; what an error answers changes nothing.
func TestPieces(t *testing.T) {
	random := rand.New(rand.NewSource(4))
	for range 3000 {
		c := sample.Code(random.Intn)
		m := machine(t, c, 1+random.Intn(80))
		for how := api.Running; how == api.Running; how, _ = m.End() {
			th := random.Intn(len(c.Bodies))
			pieces := m.Clone()
			event, _ := m.Next(th)
			may, before := m.Can(th), m.State()
			e, n, err := m.Step(th)
			if may != (err == api.OK) {
				t.Fatal(may, err)
			}
			if err != api.OK {
				if err != api.ErrState || !bytes.Equal(before, m.State()) {
					t.Fatal(err, before, m.State())
				}
				continue
			}
			total := inPieces(t, pieces, th, random.Intn)
			if total != n || e != event || !bytes.Equal(pieces.State(), m.State()) || pieces.Busy() != -1 || m.Busy() != -1 {
				t.Fatal(total, n, e, event, pieces.State(), m.State(), c)
			}
		}
	}
}

// alike fails if a program's machine does not stand as its run does.
func alike(t *testing.T, m *vm.Machine, r *sem.Run) {
	t.Helper()
	how, who := r.End()
	checkEnd(t, m, how, who)
	checkShared(t, m, r.Shared()...)
	checkHeld(t, m, r.Held()...)
	for th := range m.Threads() {
		checkLocals(t, m, th, r.Locals(th)...)
		e, err := m.Next(th)
		want, wantErr := r.Next(th)
		if e != want || err != wantErr || m.Can(th) != r.Can(th) || m.Over(th) != r.Over(th) || m.Work(th) != r.Work(th) {
			t.Errorf("thread %d: %v, %v, %v, %v, %d; not %v, %v, %v, %v, %d", th, e, err, m.Can(th), m.Over(th), m.Work(th),
				want, wantErr, r.Can(th), r.Over(th), r.Work(th))
		}
	}
}

// beside plays a program's machine and its run by one schedule to the end; it tells how they ended.
func beside(t *testing.T, p api.Program, limit int, pick sample.Pick) int {
	t.Helper()
	c, err := compile.Compile(p)
	r, runErr := sem.New(p, limit)
	if err != api.OK || runErr != api.OK {
		t.Fatal(err, runErr)
	}
	m := machine(t, c, limit)
	alike(t, m, r)
	for {
		how, _ := r.End()
		if how != api.Running || t.Failed() {
			return how
		}
		th := pick(len(p.Threads)+2) - 1
		if m.Can(th) && pick(2) == 0 {
			inPieces(t, m, th, pick)
			if _, err := r.Step(th); err != api.OK {
				t.Error(th, err)
			}
		} else {
			e, _, err := m.Step(th)
			if want, wantErr := r.Step(th); e != want || err != wantErr {
				t.Errorf("Step(%d) = %v, %v; not %v, %v", th, e, err, want, wantErr)
			}
		}
		alike(t, m, r)
	}
}

// P11.4: a program's machine and its run go together.
func TestMachinesGoWithRuns(t *testing.T) {
	random := rand.New(rand.NewSource(5))
	seen := map[int]int{}
	for i := range 6000 {
		p := sample.Program(random.Intn)
		limit := 1 + random.Intn(60)
		if i%20 == 0 {
			limit = 1 + random.Intn(2000)
		}
		seen[beside(t, p, limit, random.Intn)]++
		if t.Failed() {
			t.Fatal(limit, p)
		}
	}
	for how := api.Done; how <= api.Overrun; how++ {
		if seen[how] < 100 {
			t.Error("too few of", how, seen)
		}
	}
}

// P5: a step changes nothing but its event's object and its own thread; values keep their types.
func TestWhatAStepTouches(t *testing.T) {
	random := rand.New(rand.NewSource(6))
	for range 2000 {
		c := sample.Code(random.Intn)
		m := machine(t, c, 1+random.Intn(80))
		for how := api.Running; how == api.Running; how, _ = m.End() {
			before := m.Clone()
			if e, _, err := m.Step(random.Intn(len(c.Bodies))); err == api.OK {
				checkTouched(t, c, before, m, e)
			}
			if t.Failed() {
				t.Fatal(c)
			}
		}
	}
}

func checkTouched(t *testing.T, c api.Code, before, after *vm.Machine, e api.Event) {
	t.Helper()
	for i, v := range after.Shared() {
		if v.T != c.Shared[i].T || v != before.Shared()[i] && (e.Kind != api.Writes || e.Object != i) {
			t.Errorf("shared %d: %v by %v", i, v, e)
		}
	}
	for i, holder := range after.Held() {
		if holder != before.Held()[i] && (e.Kind != api.Locks && e.Kind != api.Unlocks || e.Object != i) {
			t.Errorf("mutex %d: %d by %v", i, holder, e)
		}
	}
	for th, b := range c.Bodies {
		for i, v := range after.Locals(th) {
			if v.T != b.Locals[i].T {
				t.Errorf("local %d of %d: %v", i, th, v)
			}
		}
		if th != e.Thread && (after.Work(th) != before.Work(th) || after.Place(th) != before.Place(th) || !slices.Equal(after.Locals(th), before.Locals(th))) {
			t.Errorf("thread %d by %v", th, e)
		}
	}
}

// FuzzCodes lets codes go, by their bytes, beside the second machine.
func FuzzCodes(f *testing.F) {
	random := rand.New(rand.NewSource(7))
	for range 20 {
		b, _ := code.Bytes(sample.Code(random.Intn))
		f.Add(b, []byte{0, 5, 9, 1, 2, 3, 0, 0, 7}, 40)
	}
	f.Fuzz(func(t *testing.T, text, moves []byte, limit int) {
		c, err := code.Read(text)
		if err != api.OK {
			return
		}
		m, err := vm.New(c, limit)
		if (err == api.OK) != (limit >= 1 && limit <= api.MaxWork) {
			t.Fatal(limit, err)
		}
		if err != api.OK || high(c) {
			return
		}
		s := secondNew(c, limit)
		moves = moves[:min(len(moves), 200)]
		at := 0
		pick := func(n int) int {
			at++
			return int(moves[at%len(moves)]) % n
		}
		for at < len(moves) && !t.Failed() {
			move(t, m, s, pick)
			checkSame(t, m, s)
			checkBox(t, m, s)
		}
	})
}

// high tells whether a code may have expressions that are too high for sem, of which the second machine is made.
func high(c api.Code) bool {
	return slices.ContainsFunc(c.Bodies, func(b api.Body) bool {
		return slices.ContainsFunc(b.Nodes, func(n api.Node) bool { return len(n.Code) > api.MaxDepth })
	})
}

// FuzzPrograms plays texts' programs on machines, beside their runs.
func FuzzPrograms(f *testing.F) {
	f.Add(example, []byte{1, 1, 0, 1})
	f.Add("shared x int; thread t { local i int; while i < 9 { i = i + 1; x = i / (i - 4); } } thread u { assert x < 3; }", []byte{0, 0, 1})
	f.Add("mutex m; mutex n; thread t { lock m; lock n; unlock m; } thread u { lock n; if true { lock m; } else { skip; } unlock m; }", []byte{0, 1})
	f.Fuzz(func(t *testing.T, text string, schedule []byte) {
		p, fault := parse.Parse(text)
		if fault.Err != api.OK {
			return
		}
		if _, err := compile.Compile(p); err != api.OK {
			return
		}
		random := rand.New(rand.NewSource(8))
		beside(t, p, 1+len(text), func(n int) int {
			if len(schedule) == 0 {
				return random.Intn(n)
			}
			first := int(schedule[0]) % n
			schedule = schedule[1:]
			return first
		})
	})
}
