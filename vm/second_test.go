package vm_test

import (
	"encoding/binary"
	"math"
	"slices"
	"strconv"

	"assize/api"
	"assize/code"
	"assize/sem"
)

// A second machine: it keeps no stack. What stands there it works out anew from the step's beginning, as values of expressions, by sem.

type secondMachine struct {
	c                api.Code
	limit            int
	shared           []api.Value
	held             []int
	locals           [][]api.Value
	place, work, did []int
	how, who         int
}

func secondNew(c api.Code, limit int) *secondMachine {
	s := &secondMachine{c: code.Copy(c), limit: limit, shared: slices.Clone(c.Shared), held: slices.Repeat([]int{-1}, c.Mutexes), who: -1}
	for _, b := range c.Bodies {
		s.locals = append(s.locals, slices.Clone(b.Locals))
	}
	s.place, s.work, s.did = make([]int, len(c.Bodies)), make([]int, len(c.Bodies)), make([]int, len(c.Bodies))
	s.rest()
	return s
}

func (s *secondMachine) there(th int) bool { return th >= 0 && th < len(s.c.Bodies) }

func (s *secondMachine) over(th int) bool {
	return s.there(th) && s.place[th] >= len(s.c.Bodies[th].Nodes)
}

func (s *secondMachine) node(th int) api.Node { return s.c.Bodies[th].Nodes[s.place[th]] }

// busy tells who has begun a step, while the machine has not ended.
func (s *secondMachine) busy() int {
	for th, n := range s.did {
		if n > 0 && s.how == api.Running {
			return th
		}
	}
	return -1
}

func (s *secondMachine) can(th int) bool {
	if !s.there(th) || s.how != api.Running || s.over(th) {
		return false
	}
	if b := s.busy(); b >= 0 && b != th {
		return false
	}
	n := s.node(th)
	return !(n.Kind == api.Take && s.held[n.Arg] >= 0)
}

func (s *secondMachine) next(th int) (api.Event, api.Errno) {
	if !s.there(th) {
		return api.Event{}, api.ErrArg
	}
	if s.over(th) {
		return api.Event{}, api.ErrState
	}
	return code.Touch(s.c, th, s.place[th])
}

// rest looks whether the machine ends between two steps.
func (s *secondMachine) rest() {
	all, any := true, false
	for th := range s.c.Bodies {
		all, any = all && s.over(th), any || s.can(th)
	}
	switch {
	case s.how != api.Running || any:
	case all:
		s.how = api.Done
	default:
		s.how = api.Deadlock
	}
}

// stack tells what stands on a thread's stack behind the first so many instructions of its node; false, if the last of them traps.
func (s *secondMachine) stack(th, count int) ([]api.Value, bool) {
	var trees []api.Expr
	var names []string
	var values []api.Value
	leaf := func(v api.Value) {
		name := "v" + strconv.Itoa(len(names))
		names, values = append(names, name), append(values, v)
		trees = append(trees, api.Expr{Op: api.Name, Name: name})
	}
	if count == 0 {
		return nil, true
	}
	for _, x := range s.node(th).Code[:count] {
		switch x.Op {
		case api.Lit:
			leaf(x.Lit)
		case api.Load:
			leaf(s.locals[th][x.Arg])
		case api.Fetch:
			leaf(s.shared[x.Arg])
		default:
			from := len(trees) - 2
			if x.Op >= api.Neg {
				from++
			}
			tree := api.Expr{Op: x.Op, Kids: slices.Clone(trees[from:])}
			trees = append(trees[:from], tree)
		}
	}
	var list []api.Value
	for _, e := range trees {
		v, _, err := sem.Value(e, names, values)
		if err != api.OK {
			return nil, false
		}
		list = append(list, v)
	}
	return list, true
}

// instruct does one instruction; it tells whether it was done, and whether the step is over.
func (s *secondMachine) instruct(th int) (did, over bool) {
	if s.work[th] == s.limit {
		s.how, s.who = api.Overrun, th
		return false, true
	}
	s.work[th]++
	n := s.node(th)
	last := s.did[th] == len(n.Code)
	list, fine := s.stack(th, min(s.did[th]+1, len(n.Code)))
	if !fine || last && n.Kind == api.Give && s.held[n.Arg] != th {
		s.how, s.who, s.did[th] = api.Trapped, th, 0
		return true, true
	}
	if !last {
		s.did[th]++
		return true, false
	}
	s.did[th], s.place[th] = 0, n.Next
	if len(list) > 0 && list[0] == truth(0) && n.Kind == api.Demand {
		s.how, s.who = api.Failed, th
	}
	if len(list) > 0 && list[0] == truth(0) && n.Kind == api.Branch {
		s.place[th] = n.Alt
	}
	switch n.Kind {
	case api.SetLocal:
		s.locals[th][n.Arg] = list[0]
	case api.SetShared:
		s.shared[n.Arg] = list[0]
	case api.Take, api.Give:
		s.held[n.Arg] = map[int]int{api.Take: th, api.Give: -1}[n.Kind]
	}
	s.rest()
	return true, true
}

func (s *secondMachine) run(th, n int) (done int, over bool, err api.Errno) {
	if !s.there(th) || n < 0 {
		return 0, false, api.ErrArg
	}
	if !s.can(th) {
		return 0, false, api.ErrState
	}
	for i := 0; i < n && !over; i++ {
		var did bool
		if did, over = s.instruct(th); did {
			done++
		}
	}
	return done, over, api.OK
}

func (s *secondMachine) step(th int) (api.Event, int, api.Errno) {
	e, _ := s.next(th)
	n, _, err := s.run(th, math.MaxInt)
	if err != api.OK {
		e = api.Event{}
	}
	return e, n, err
}

// state tells the state's bytes.
func (s *secondMachine) state() []byte {
	var text []byte
	values := func(list []api.Value) {
		for _, v := range list {
			text = binary.BigEndian.AppendUint64(append(text, byte(v.T)), v.Bits)
		}
	}
	values(s.shared)
	for _, th := range s.held {
		text = append(text, byte(th+1))
	}
	for th := range s.c.Bodies {
		values(s.locals[th])
		text = binary.BigEndian.AppendUint16(text, uint16(s.place[th]))
		text = binary.BigEndian.AppendUint32(text, uint32(s.work[th]))
		text = binary.BigEndian.AppendUint16(text, uint16(s.did[th]))
		list, _ := s.stack(th, s.did[th])
		text = append(text, byte(len(list)))
		values(list)
	}
	return append(text, byte(s.how), byte(s.who+1))
}
