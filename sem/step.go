package sem

import (
	"slices"

	"assize/api"
)

// todo is what a thread has to do: the statements of a block, of which there is at least one, and what stands behind them. Nothing to do is nil. As none is ever changed, runs and loops share them.
type todo struct {
	block []api.Stmt
	rest  *todo
}

// put tells what there is to do with a block's statements at the front.
func put(block []api.Stmt, rest *todo) *todo {
	if len(block) == 0 {
		return rest
	}
	return &todo{block: block, rest: rest}
}

// first tells the first statement.
func (l *todo) first() api.Stmt { return l.block[0] }

// behind tells what there is to do behind the first statement.
func (l *todo) behind() *todo { return put(l.block[1:], l.rest) }

// event tells what a statement of a thread touches.
func (r *Run) event(t int, s api.Stmt) api.Event {
	switch s.Kind {
	case api.Lock:
		return api.Event{Thread: t, Kind: api.Locks, Object: r.mutex(s.Name)}
	case api.Unlock:
		return api.Event{Thread: t, Kind: api.Unlocks, Object: r.mutex(s.Name)}
	case api.Assign:
		if at := place(r.program.Shared, s.Name); at >= 0 {
			return api.Event{Thread: t, Kind: api.Writes, Object: at}
		}
	}
	if at := r.read(s.E); at >= 0 {
		return api.Event{Thread: t, Kind: api.Reads, Object: at}
	}
	return api.Event{Thread: t, Kind: api.Local}
}

// read tells the number of the first shared variable that an expression names; -1, if it names none.
func (r *Run) read(e api.Expr) int {
	if e.Op == api.Name {
		return place(r.program.Shared, e.Name)
	}
	for _, kid := range e.Kids {
		if at := r.read(kid); at >= 0 {
			return at
		}
	}
	return -1
}

// mutex tells a mutex' number.
func (r *Run) mutex(name string) int { return slices.Index(r.program.Mutexes, name) }

// place tells the number of the variable of that name; -1, if there is none.
func place(vars []api.Var, name string) int {
	return slices.IndexFunc(vars, func(v api.Var) bool { return v.Name == name })
}

// variable tells where the value of a thread's variable of that name is kept.
func (r *Run) variable(t int, name string) *api.Value {
	if at := place(r.program.Threads[t].Locals, name); at >= 0 {
		return &r.threads[t].locals[at]
	}
	return &r.shared[place(r.program.Shared, name)]
}

// step lets a thread step that may.
func (r *Run) step(t int) {
	th := &r.threads[t]
	s := th.left.first()
	v, n, trapped := r.instructions(t, s)
	switch {
	case th.work+n > r.limit:
		th.work = r.limit
		r.how, r.who = api.Overrun, t
	case trapped:
		th.work += n
		r.how, r.who = api.Trapped, t
	default:
		th.work += n
		r.do(t, s, v)
	}
}

// instructions tells the value of a statement's expression, if it has one, how many instructions the statement takes, up to a trap, and whether there is one.
func (r *Run) instructions(t int, s api.Stmt) (api.Value, int, bool) {
	switch s.Kind {
	case api.Unlock:
		return api.Value{}, 1, r.held[r.mutex(s.Name)] != t
	case api.Lock, api.Skip:
		return api.Value{}, 1, false
	}
	v, n, trapped := workOut(s.E, func(name string) api.Value { return *r.variable(t, name) })
	if !trapped {
		n++
	}
	return v, n, trapped
}

// do does a thread's first statement, whose expression has that value.
func (r *Run) do(t int, s api.Stmt, v api.Value) {
	left := r.threads[t].left.behind()
	yes := v.Bits != 0
	switch s.Kind {
	case api.Assign:
		*r.variable(t, s.Name) = v
	case api.Lock:
		r.held[r.mutex(s.Name)] = t
	case api.Unlock:
		r.held[r.mutex(s.Name)] = none
	case api.Assert:
		if !yes {
			r.how, r.who = api.Failed, t
		}
	case api.If:
		if yes {
			left = put(s.Body, left)
		} else {
			left = put(s.Else, left)
		}
	case api.While:
		if yes {
			left = put(s.Body, r.threads[t].left)
		}
	}
	r.threads[t].left = left
}

// settle ends a run that goes on, if all threads have ended, or none may step.
func (r *Run) settle() {
	if r.how != api.Running {
		return
	}
	over := true
	for t := range r.threads {
		if r.Can(t) {
			return
		}
		over = over && r.Over(t)
	}
	r.how = api.Deadlock
	if over {
		r.how = api.Done
	}
}
