package search

import (
	"slices"

	"assize/api"
	"assize/vm"
)

// takeUp makes a search, of whose code a machine stands at its beginning, one with a frontier. It tells whether that may be.
func (s *Search) takeUp(m *vm.Machine, f api.Frontier) bool {
	if f.Played < 0 || f.Charged < 0 || f.Charged > s.budget || !s.mayDecide(f, m.Threads()) {
		return false
	}
	s.played, s.charged = f.Played, f.Charged
	if f.Verdict.Kind == api.Open {
		return s.retrace(m, f)
	}
	v := f.Verdict
	v.Schedule = slices.Clone(v.Schedule)
	s.decide(v)
	return true
}

// mayDecide tells whether a frontier's verdict may be, of so many threads, and whether the path is as long as it allows.
func (s *Search) mayDecide(f api.Frontier, n int) bool {
	v := f.Verdict
	if v.Kind == api.Open {
		return isPlain(v) && f.Charged < s.budget && hasLevels(f)
	}
	isBare := len(f.Path) == 0 && len(f.Back) == 0 && len(f.Asleep) == 0 && f.Done == 0
	switch v.Kind {
	case api.Safe:
		return isBare && isPlain(v)
	case api.Fails:
		return isBare && mayFail(v, n)
	case api.Spent:
		return isBare && isPlain(v) && f.Charged == s.budget
	}
	return false
}

// isPlain tells whether a verdict tells nothing of a failure.
func isPlain(v api.Verdict) bool { return v.How == 0 && v.Who == 0 && len(v.Schedule) == 0 }

// mayFail tells whether a verdict tells a failure of so many threads.
func mayFail(v api.Verdict, n int) bool {
	isStrange := func(t int) bool { return !isThread(t, n) }
	isWho := v.Who == -1
	if v.How != api.Deadlock {
		isWho = isThread(v.Who, n)
	}
	return isFailure(v.How) && isWho && len(v.Schedule) <= api.MaxSteps && !slices.ContainsFunc(v.Schedule, isStrange)
}

// isThread tells whether a number is that of one of n threads.
func isThread(t, n int) bool { return 0 <= t && t < n }

// hasLevels tells whether a frontier has as many levels as may be, each with all that is told of one.
func hasLevels(f api.Frontier) bool {
	n := len(f.Path)
	return n >= 1 && n <= api.MaxSteps && len(f.Back) == n && len(f.Asleep) == n
}

// retrace makes the steps of a frontier's path again, from a machine on, and tells whether they may be.
func (s *Search) retrace(m *vm.Machine, f api.Frontier) bool {
	for number, t := range f.Path {
		if number > 0 {
			if m = s.again(); m == nil {
				return false
			}
		}
		if !s.stand(m, t, f.Back[number], f.Asleep[number]) {
			return false
		}
	}
	s.under = s.here().machine.Clone()
	return s.redo(f.Done)
}

// stand puts a level behind the others, and tells whether it may be.
func (s *Search) stand(m *vm.Machine, t, back, asleep int) bool {
	n := m.Threads()
	if !isThread(t, n) || !isSet(back, n) || !isSet(asleep, n) {
		return false
	}
	l := level{machine: m, can: which(n, m.Can), back: threads(back), asleep: threads(asleep), thread: t}
	s.levels = append(s.levels, l)
	return l.back.has(t) && !l.asleep.has(t) && l.back&^l.can == 0 && l.asleep&which(n, m.Over) == 0
}

// isSet tells whether a number's bits are a set of n threads.
func isSet(bits, n int) bool { return bits >= 0 && bits < 1<<n }

// again makes the step of the last level, and tells the machine behind it; nil, if the step ends it.
func (s *Search) again() *vm.Machine {
	here := s.here()
	m := here.machine.Clone()
	event, _, err := m.Step(here.thread)
	if how, _ := m.End(); err != api.OK || how != api.Running {
		return nil
	}
	s.path.push(event)
	return m
}

// redo does so many instructions of the step that is under way, and tells whether it is in want of another one.
func (s *Search) redo(n int) bool {
	t := s.here().thread
	_, over, err := s.under.Run(t, n)
	return err == api.OK && !over && s.under.Work(t) < s.limit
}
