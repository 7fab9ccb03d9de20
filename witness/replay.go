package witness

import (
	"iter"
	"slices"

	"assize/api"
	"assize/sem"
)

// replay is a program that is played again, by one schedule.
type replay struct {
	program api.Program
	run     *sem.Run
	left    []*todo // of each thread what it has still to do, as a run does not tell which statement comes next
}

// step is a step that was made: which one it is, what it did, and what is so behind it.
type step struct {
	number    int
	program   api.Program
	statement api.Stmt
	told      api.Mark
	held      []int // of each mutex who holds it
}

// mark tells a step's mark.
func (s step) mark() api.Mark { return s.told }

// begin makes a replay, if the schedule may be played that far at all.
func begin(p api.Program, work int, schedule []int) (*replay, api.Errno) {
	run, err := sem.New(p, work)
	if err != api.OK {
		return nil, err
	}
	if len(schedule) > api.MaxEvents {
		return nil, api.ErrLong
	}
	r := &replay{program: p, run: run}
	for _, t := range p.Threads {
		r.left = append(r.left, put(t.Body, 0, nil))
	}
	return r, api.OK
}

// steps plays a schedule, and goes through its steps as they are made; beside one that is not made stands an error. Whoever stops going through them stops the play.
func (r *replay) steps(schedule []int) iter.Seq2[step, api.Errno] {
	return func(yield func(step, api.Errno) bool) {
		for number, t := range schedule {
			if !yield(r.step(number, t)) {
				return
			}
		}
	}
}

// gather tells what a function tells of each step of a story, or the error of the first that was not made.
func gather[T any](story iter.Seq2[step, api.Errno], tell func(step) T) ([]T, api.Errno) {
	var list []T
	for s, err := range story {
		if err != api.OK {
			return nil, err
		}
		list = append(list, tell(s))
	}
	return list, api.OK
}

// step lets a thread step, if it may.
func (r *replay) step(number, t int) (step, api.Errno) {
	if !r.run.Can(t) {
		return step{}, api.ErrState
	}
	first := r.left[t]
	// Which way it goes on is told by the values ahead of the step. If it ends the run, nobody asks any more.
	r.left[t] = first.behind(r.isTrue(t, first.statement()))
	event, err := r.run.Step(t)
	return step{
		number:    number,
		program:   r.program,
		statement: first.statement(),
		told:      api.Mark{Thread: t, Stmt: first.number, Event: event, Shared: r.run.Shared(), Locals: r.run.Locals(t)},
		held:      r.run.Held(),
	}, err
}

// isTrue tells whether a thread's statement has a condition that is so now; one that traps is not.
func (r *replay) isTrue(t int, s api.Stmt) bool {
	if s.Kind != api.If && s.Kind != api.While {
		return false
	}
	names := append(namesOf(r.program.Threads[t].Locals), namesOf(r.program.Shared)...)
	values := slices.Concat(r.run.Locals(t), r.run.Shared())
	v, _, err := sem.Value(s.E, names, values)
	return err == api.OK && v.Bits == 1
}

// namesOf tells the variables' names.
func namesOf(vars []api.Var) []string {
	var names []string
	for _, v := range vars {
		names = append(names, v.Name)
	}
	return names
}
