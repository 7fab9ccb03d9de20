package search

import (
	"assize/api"
	"assize/dep"
	"assize/vm"
)

// level is a machine to which the path led, and what is known of the threads there.
type level struct {
	machine *vm.Machine // between two steps, and never changed
	can     threads     // those that may go on
	back    threads     // those that are to be tried
	asleep  threads     // those that sleep
	thread  int         // the one whose step was taken
}

// slice charges n instructions, or as many as there are up to the verdict, and does all that charges nothing ahead of the next one. The budget has room for n.
func (s *Search) slice(n int) {
	end := s.charged + n
slice:
	for s.isOpen() {
		switch {
		case s.under == nil:
			s.try()
		case s.advance(end - s.charged):
			s.arrive()
		default:
			break slice
		}
	}
	if s.isOpen() && s.charged == s.budget {
		s.decide(api.Verdict{Kind: api.Spent})
	}
}

// isOpen tells whether there is no verdict.
func (s *Search) isOpen() bool { return s.verdict.Kind == api.Open }

// here tells the last level. It moves when another one is put behind it.
func (s *Search) here() *level { return &s.levels[len(s.levels)-1] }

// advance does at most n instructions of the step that is under way, and tells whether it is over.
func (s *Search) advance(n int) bool {
	t := s.here().thread
	done, over, _ := s.under.Run(t, n)
	s.charged += done
	if !over && s.under.Work(t) == s.limit {
		// That the machine ends by it charges nothing, so that it does not wait for the next slice.
		_, over, _ = s.under.Run(t, 1)
	}
	return over
}

// arrive comes to the machine of the step that was under way, and is over.
func (s *Search) arrive() {
	here, m := s.here(), s.under
	s.under = nil
	// The thread made the step, so that it has a node there.
	event, _ := here.machine.Next(here.thread)
	s.path.push(event)
	s.come(m, here.stillAsleep(event))
}

// stillAsleep tells those of the threads that sleep whom a step's event does not wake.
func (l *level) stillAsleep(event api.Event) threads {
	set := l.asleep
	for t := range l.asleep.all() {
		if next, _ := l.machine.Next(t); dep.Depends(next, event) {
			set &^= only(t)
		}
	}
	return set
}

// come comes to a machine, on the next level, with threads that sleep.
func (s *Search) come(m *vm.Machine, asleep threads) {
	how, who := m.End()
	if isFailure(how) {
		s.decide(api.Verdict{Kind: api.Fails, How: how, Who: who, Schedule: s.schedule()})
		return
	}
	s.seekRaces(m)
	if how == api.Done {
		s.played++
	}
	l := level{machine: m, can: which(m.Threads(), m.Can), asleep: asleep}
	// If there is none, as at the end, there is none to be tried, and the search goes back.
	if awake := l.can &^ asleep; awake != 0 {
		l.back = only(awake.least())
	}
	s.levels = append(s.levels, l)
}

// isFailure tells whether a machine that ended so refutes its code.
func isFailure(how int) bool { return how >= api.Failed && how <= api.Overrun }

// seekRaces looks which of the path's steps might have come behind a thread's next one: where they were taken, all that could go on are to be tried.
func (s *Search) seekRaces(m *vm.Machine) {
	for t := range m.Threads() {
		next, err := m.Next(t)
		if err != api.OK {
			continue
		}
		for _, number := range s.path.races(next) {
			s.levels[number].back = s.levels[number].can
		}
	}
}

// try begins a step from the last level, or goes back.
func (s *Search) try() {
	here := s.here()
	left := here.back &^ here.asleep
	if left == 0 {
		s.goBack()
		return
	}
	here.thread = left.least()
	s.under = here.machine.Clone()
}

// goBack leaves the last level. The thread that led to it sleeps then.
func (s *Search) goBack() {
	*s.here() = level{}
	s.levels = s.levels[:len(s.levels)-1]
	if len(s.levels) == 0 {
		s.decide(api.Verdict{Kind: api.Safe})
		return
	}
	s.path.pop()
	here := s.here()
	here.asleep |= only(here.thread)
}

// schedule tells the threads of the path.
func (s *Search) schedule() []int {
	list := make([]int, len(s.levels))
	for i, l := range s.levels {
		list[i] = l.thread
	}
	return list
}

// decide gives the search its verdict, behind which nothing else is asked for.
func (s *Search) decide(v api.Verdict) {
	s.verdict, s.levels, s.under, s.path = v, nil, nil, path{}
}
