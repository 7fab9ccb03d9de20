package vm

import "assize/api"

// trap is what leaves an instruction that cannot be done.
type trap struct{}

// isTrap tells by what recover tells whether an instruction trapped.
func isTrap(caught any) bool {
	switch caught.(type) {
	case nil:
		return false
	case trap:
		return true
	}
	panic(caught)
}

// node tells the node that is a thread's place.
func (m *Machine) node(t int) *api.Node { return &m.code.Bodies[t].Nodes[m.threads[t].place] }

// advance does at most so many instructions of a thread's step, and tells whether it is over.
func (m *Machine) advance(t, n int) bool {
	for range n {
		if m.instruct(t) {
			return true
		}
	}
	return false
}

// instruct does a thread's next instruction, unless its work is at the limit, and tells whether its step is over.
func (m *Machine) instruct(t int) bool {
	th := &m.threads[t]
	if th.work == m.limit {
		m.end(t, api.Overrun)
		return true
	}
	th.work++
	n := m.node(t)
	if th.done == len(n.Code) {
		m.finish(t, n)
		return true
	}
	th.do(n.Code[th.done], m.shared)
	th.done++
	m.busy = t
	return false
}

// do does an instruction that works on the thread's stack.
func (th *thread) do(i api.Instr, shared []api.Value) {
	switch i.Op {
	case api.Lit:
		th.put(i.Lit)
	case api.Load:
		th.put(th.locals[i.Arg])
	case api.Fetch:
		th.put(shared[i.Arg])
	case api.Neg, api.Not, api.ToInt, api.ToReal:
		th.put(ofOne(i.Op, th.take()))
	default:
		second := th.take()
		th.put(ofTwo(i.Op, th.take(), second))
	}
}

// put puts a value on the thread's stack.
func (th *thread) put(v api.Value) { th.stack = append(th.stack, v) }

// take takes the upper value off the thread's stack.
func (th *thread) take() api.Value {
	upper := len(th.stack) - 1
	v := th.stack[upper]
	th.stack = th.stack[:upper]
	return v
}

// holds takes a Bool off the thread's stack.
func (th *thread) holds() bool { return th.take().Bits != 0 }

// finish does the last instruction of a thread's node, by which its step is over.
func (m *Machine) finish(t int, n *api.Node) {
	th := &m.threads[t]
	place := n.Next
	switch n.Kind {
	case api.SetLocal:
		th.locals[n.Arg] = th.take()
	case api.SetShared:
		m.shared[n.Arg] = th.take()
	case api.Take:
		m.held[n.Arg] = t
	case api.Give:
		if m.held[n.Arg] != t {
			panic(trap{})
		}
		m.held[n.Arg] = none
	case api.Demand:
		if !th.holds() {
			m.end(t, api.Failed)
		}
	case api.Branch:
		if !th.holds() {
			place = n.Alt
		}
	}
	th.place, th.done, m.busy = place, 0, none
	m.settle()
}

// giveUp ends the machine by a thread's trap: of its step nothing is left but the work.
func (m *Machine) giveUp(t int) {
	th := &m.threads[t]
	th.stack, th.done = nil, 0
	m.end(t, api.Trapped)
}

// end ends the machine by a thread's step, which is over so.
func (m *Machine) end(t, how int) { m.how, m.who, m.busy = how, t, none }

// settle ends a machine that goes on, if all threads have ended, or none may go on.
func (m *Machine) settle() {
	if m.how != api.Running {
		return
	}
	over := true
	for t := range m.threads {
		if m.Can(t) {
			return
		}
		over = over && m.Over(t)
	}
	m.how = api.Deadlock
	if over {
		m.how = api.Done
	}
}
