package search_test

import (
	"iter"
	"slices"
	"testing"

	"assize/api"
	"assize/dep"
	"assize/vm"
)

// A second search, by the chapter's words: it calls itself level by level, plays every path anew from the code's beginning, keeps sets as lists of bools, and tells what happens ahead of what pair by pair.

type secondSearch struct {
	c               api.Code
	work            int
	path            []int
	back, asleep    [][]bool // of each level
	played, charged int
	stand           func(api.Frontier) bool // is called where an instruction is about to be done, and in the end; it tells whether to go on
	stopped         bool
}

// secondStands goes through all that a search without a budget comes to: where it stands ahead of each instruction, and with its verdict.
func secondStands(c api.Code, work int) iter.Seq[api.Frontier] {
	return func(yield func(api.Frontier) bool) {
		s := &secondSearch{c: c, work: work, stand: yield}
		s.come(make([]bool, len(c.Bodies)))
		s.tell(api.Verdict{Kind: api.Safe})
	}
}

// secondStandsFrom goes on from a frontier that may be, and has no verdict.
func secondStandsFrom(c api.Code, work int, f api.Frontier) iter.Seq[api.Frontier] {
	return func(yield func(api.Frontier) bool) {
		s := &secondSearch{c: c, work: work, stand: yield, played: f.Played, charged: f.Charged}
		s.goDown(f)
		s.tell(api.Verdict{Kind: api.Safe})
	}
}

// tell tells a verdict, behind which nothing is done.
func (s *secondSearch) tell(v api.Verdict) {
	if !s.stopped {
		s.stand(api.Frontier{Played: s.played, Charged: s.charged, Verdict: v})
	}
	s.stopped = true
}

// bitsOf tells a set as a number.
func bitsOf(set []bool) int {
	number := 0
	for t, in := range set {
		if in {
			number += 1 << t
		}
	}
	return number
}

// setOf tells a number's bits as a set.
func setOf(number, n int) []bool {
	set := make([]bool, n)
	for t := range set {
		set[t] = number>>t&1 == 1
	}
	return set
}

// play plays the first so many steps of the path.
func (s *secondSearch) play(n int) ([]api.Event, *vm.Machine) {
	m, err := vm.New(s.c, s.work)
	var events []api.Event
	for _, t := range s.path[:n] {
		e, _, stepErr := m.Step(t)
		events, err = append(events, e), max(err, stepErr)
	}
	if err != api.OK {
		panic(err)
	}
	return events, m
}

// secondAhead tells what happens ahead of what: of two events, the later one's row, at the earlier one's place.
func secondAhead(l []api.Event) [][]bool {
	rows := make([][]bool, len(l))
	for j := range l {
		rows[j] = make([]bool, len(l))
		for i := j - 1; i >= 0; i-- {
			rows[j][i] = dep.Depends(l[i], l[j])
			for k := i + 1; k < j && !rows[j][i]; k++ {
				rows[j][i] = rows[k][i] && rows[j][k]
			}
		}
	}
	return rows
}

// come comes to the machine behind the path.
func (s *secondSearch) come(asleep []bool) {
	level := len(s.path)
	events, m := s.play(level)
	how, who := m.End()
	switch how {
	case api.Failed, api.Trapped, api.Overrun, api.Deadlock:
		s.tell(api.Verdict{Kind: api.Fails, How: how, Who: who, Schedule: slices.Clone(s.path)})
		return
	}
	s.race(events, m)
	if how == api.Done {
		s.played++
		return
	}
	s.back, s.asleep = append(s.back[:level], make([]bool, m.Threads())), append(s.asleep[:level], asleep)
	for t := range m.Threads() {
		if m.Can(t) && !asleep[t] {
			s.back[level][t] = true
			s.tryAll()
			return
		}
	}
}

// race looks for what is to be tried on the levels of the path.
func (s *secondSearch) race(events []api.Event, m *vm.Machine) {
	rows := secondAhead(events)
	for t := range m.Threads() {
		next, err := m.Next(t)
		for i, e := range events {
			past := false
			for j := range events {
				past = past || events[j].Thread == t && rows[j][i]
			}
			if err != api.OK || e.Thread == t || !dep.Depends(next, e) || past {
				continue
			}
			_, there := s.play(i)
			for other := range there.Threads() {
				s.back[i][other] = s.back[i][other] || there.Can(other)
			}
		}
	}
}

// tryAll tries on the last level, until none is left there.
func (s *secondSearch) tryAll() {
	level := len(s.path)
	for t := 0; t < len(s.c.Bodies) && !s.stopped; t++ {
		if s.back[level][t] && !s.asleep[level][t] {
			s.try(t, 0)
			t = -1
		}
	}
}

// try makes a thread's step, of which so many instructions are done, and all that follows, until it is back.
func (s *secondSearch) try(t, done int) {
	level := len(s.path)
	_, m := s.play(level)
	event, _ := m.Next(t)
	_, over, _ := m.Run(t, done)
	sleeping := make([]bool, m.Threads())
	for other, is := range s.asleep[level] {
		if next, _ := m.Next(other); is && !dep.Depends(next, event) {
			sleeping[other] = true
		}
	}
	s.path = append(s.path, t)
	for ; !over && m.Work(t) < s.work; done++ {
		if !s.about(done) {
			s.stopped = true
			return
		}
		_, over, _ = m.Run(t, 1)
		s.charged++
	}
	s.come(sleeping)
	s.path = s.path[:level]
	s.asleep[level][t] = true
}

// about tells that an instruction of the last step is about to be done.
func (s *secondSearch) about(done int) bool {
	f := api.Frontier{Path: slices.Clone(s.path), Done: done, Played: s.played, Charged: s.charged}
	for level := range s.path {
		f.Back = append(f.Back, bitsOf(s.back[level]))
		f.Asleep = append(f.Asleep, bitsOf(s.asleep[level]))
	}
	return s.stand(f)
}

// goDown goes down the rest of a frontier's path, goes on there, and comes back up.
func (s *secondSearch) goDown(f api.Frontier) {
	level := len(s.path)
	s.back = append(s.back, setOf(f.Back[level], len(s.c.Bodies)))
	s.asleep = append(s.asleep, setOf(f.Asleep[level], len(s.c.Bodies)))
	t := f.Path[level]
	if level == len(f.Path)-1 {
		s.try(t, f.Done)
	} else {
		s.path = append(s.path, t)
		s.goDown(f)
		s.path = s.path[:level]
		s.asleep[level][t] = true
	}
	s.tryAll()
}

// secondMayBe tells whether a frontier may be of a code that may be, a limit and a budget.
func secondMayBe(c api.Code, work, budget int, f api.Frontier) bool {
	v, n := f.Verdict, len(c.Bodies)
	isThread := func(t int) bool { return t >= 0 && t < n }
	if f.Played < 0 || f.Charged < 0 || f.Charged > budget || v.Kind < 0 || v.Kind > 3 {
		return false
	}
	if v.Kind == api.Fails {
		for _, t := range v.Schedule {
			if !isThread(t) {
				return false
			}
		}
		if v.How < 2 || v.How > 5 || len(v.Schedule) > 1048577 || v.How == api.Deadlock && v.Who != -1 || v.How != api.Deadlock && !isThread(v.Who) {
			return false
		}
	} else if v.How != 0 || v.Who != 0 || len(v.Schedule) > 0 {
		return false
	}
	if v.Kind != api.Open {
		return len(f.Path)+len(f.Back)+len(f.Asleep) == 0 && f.Done == 0 && (v.Kind != api.Spent || f.Charged == budget)
	}
	if f.Charged >= budget || len(f.Path) != len(f.Back) || len(f.Path) != len(f.Asleep) || len(f.Path) < 1 || len(f.Path) > 1048577 {
		return false
	}
	return secondPathMayBe(c, work, f)
}

// secondPathMayBe tells whether the levels of a frontier without a verdict may be.
func secondPathMayBe(c api.Code, work int, f api.Frontier) bool {
	m, _ := vm.New(c, work)
	for level, t := range f.Path {
		for other := range 64 {
			back, asleep := f.Back[level]>>other&1 == 1, f.Asleep[level]>>other&1 == 1
			if back && !m.Can(other) || asleep && (other >= m.Threads() || m.Over(other)) || other == t && (!back || asleep) {
				return false
			}
		}
		if t < 0 || t >= m.Threads() {
			return false
		}
		if level == len(f.Path)-1 {
			break
		}
		m.Step(t)
		if how, _ := m.End(); how != api.Running {
			return false
		}
	}
	t := f.Path[len(f.Path)-1]
	for range f.Done {
		if _, over, _ := m.Run(t, 1); over {
			return false
		}
	}
	return f.Done >= 0 && m.Work(t) < work
}

// The second search tells the chapter's examples as well.
func TestSecondSearch(t *testing.T) {
	for _, x := range []struct {
		text  string
		work  int
		stand []string
	}{
		{"thread a { skip; } thread b { skip; }", 9, []string{
			"{Path:[0] Back:[1] Asleep:[0] Done:0 Played:0 Charged:0 Verdict:{Kind:0 How:0 Who:0 Schedule:[]}}",
			"{Path:[0 1] Back:[1 2] Asleep:[0 0] Done:0 Played:0 Charged:1 Verdict:{Kind:0 How:0 Who:0 Schedule:[]}}",
			"{Path:[] Back:[] Asleep:[] Done:0 Played:1 Charged:2 Verdict:{Kind:1 How:0 Who:0 Schedule:[]}}",
		}},
		{"shared x bool; thread a { x = true; } thread b { assert x; }", 9, []string{
			"{Path:[0] Back:[1] Asleep:[0] Done:0 Played:0 Charged:0 Verdict:{Kind:0 How:0 Who:0 Schedule:[]}}",
			"{Path:[0] Back:[1] Asleep:[0] Done:1 Played:0 Charged:1 Verdict:{Kind:0 How:0 Who:0 Schedule:[]}}",
			"{Path:[0 1] Back:[3 2] Asleep:[0 0] Done:0 Played:0 Charged:2 Verdict:{Kind:0 How:0 Who:0 Schedule:[]}}",
			"{Path:[0 1] Back:[3 2] Asleep:[0 0] Done:1 Played:0 Charged:3 Verdict:{Kind:0 How:0 Who:0 Schedule:[]}}",
			"{Path:[1] Back:[3] Asleep:[1] Done:0 Played:1 Charged:4 Verdict:{Kind:0 How:0 Who:0 Schedule:[]}}",
			"{Path:[1] Back:[3] Asleep:[1] Done:1 Played:1 Charged:5 Verdict:{Kind:0 How:0 Who:0 Schedule:[]}}",
			"{Path:[] Back:[] Asleep:[] Done:0 Played:1 Charged:6 Verdict:{Kind:2 How:2 Who:1 Schedule:[1]}}",
		}},
		{"thread a { while true { } }", 3, []string{
			"{Path:[0] Back:[1] Asleep:[0] Done:0 Played:0 Charged:0 Verdict:{Kind:0 How:0 Who:0 Schedule:[]}}",
			"{Path:[0] Back:[1] Asleep:[0] Done:1 Played:0 Charged:1 Verdict:{Kind:0 How:0 Who:0 Schedule:[]}}",
			"{Path:[0 0] Back:[1 1] Asleep:[0 0] Done:0 Played:0 Charged:2 Verdict:{Kind:0 How:0 Who:0 Schedule:[]}}",
			"{Path:[] Back:[] Asleep:[] Done:0 Played:0 Charged:3 Verdict:{Kind:2 How:5 Who:0 Schedule:[0 0]}}",
		}},
	} {
		c := compiled(t, x.text)
		s := begun(t, c, x.work, 1000)
		at := 0
		for f := range secondStands(c, x.work) {
			if at == len(x.stand) || short(f) != x.stand[at] {
				t.Fatal(x.text, at, short(f))
			}
			checkFrontier(t, s, f)
			s.Run(1)
			at++
		}
		if at != len(x.stand) {
			t.Error(x.text, at)
		}
	}
}
