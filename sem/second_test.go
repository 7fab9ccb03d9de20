package sem_test

import (
	"fmt"
	"math"
	"math/big"

	"assize/api"
)

// A second run: threads are lists of nodes, gone through by numbers; expressions are worked out on a stack, whole numbers with any number of digits.

type node struct {
	stmt      api.Stmt
	next, alt int
}

type secondRun struct {
	p        api.Program
	limit    int
	values   map[string]api.Value
	holder   map[string]int
	nodes    [][]node
	at, work []int
	how, who int
}

func secondNew(p api.Program, limit int) *secondRun {
	s := &secondRun{p: p, limit: limit, values: map[string]api.Value{}, holder: map[string]int{}, who: -1}
	for _, v := range p.Shared {
		s.values[v.Name] = v.First
	}
	for i, th := range p.Threads {
		for _, v := range th.Locals {
			s.values[own(i, v.Name)] = v.First
		}
		s.nodes = append(s.nodes, nil)
		s.lay(i, th.Body)
		s.follow(i, 0, th.Body, len(s.nodes[i]))
		s.at, s.work = append(s.at, 0), append(s.work, 0)
	}
	s.rest()
	return s
}

// own is a local's key.
func own(thread int, name string) string { return fmt.Sprint(thread, ".", name) }

// lay lays a node for each statement, by its number.
func (s *secondRun) lay(t int, block []api.Stmt) {
	for _, st := range block {
		s.nodes[t] = append(s.nodes[t], node{stmt: st})
		s.lay(t, st.Body)
		s.lay(t, st.Else)
	}
}

func size(block []api.Stmt) int {
	n := len(block)
	for _, st := range block {
		n += size(st.Body) + size(st.Else)
	}
	return n
}

// follow says where the statements of a block, whose first is numbered so, go on; behind the last one it is after.
func (s *secondRun) follow(t, first int, block []api.Stmt, after int) {
	for i, st := range block {
		body, other := first+1, first+1+size(st.Body)
		behind := other + size(st.Else)
		next := behind
		if i == len(block)-1 {
			next = after
		}
		n := &s.nodes[t][first]
		n.next, n.alt = next, next
		switch st.Kind {
		case api.If:
			if len(st.Body) > 0 {
				n.next = body
			}
			if len(st.Else) > 0 {
				n.alt = other
			}
			s.follow(t, body, st.Body, next)
			s.follow(t, other, st.Else, next)
		case api.While:
			n.next = first
			if len(st.Body) > 0 {
				n.next = body
			}
			s.follow(t, body, st.Body, first)
		}
		first = behind
	}
}

func (s *secondRun) over(t int) bool {
	return t >= 0 && t < len(s.at) && s.at[t] == len(s.nodes[t])
}

func (s *secondRun) can(t int) bool {
	if t < 0 || t >= len(s.at) || s.how != 0 || s.over(t) {
		return false
	}
	st := s.nodes[t][s.at[t]].stmt
	_, taken := s.holder[st.Name]
	return st.Kind != api.Lock || !taken
}

// key tells where a thread's variable of that name is kept.
func (s *secondRun) key(t int, name string) string {
	if _, local := s.values[own(t, name)]; local {
		return own(t, name)
	}
	return name
}

func (s *secondRun) next(t int) (api.Event, api.Errno) {
	if t < 0 || t >= len(s.at) {
		return api.Event{}, api.ErrArg
	}
	if s.over(t) {
		return api.Event{}, api.ErrState
	}
	st := s.nodes[t][s.at[t]].stmt
	e := api.Event{Thread: t}
	for i, m := range s.p.Mutexes {
		if m == st.Name && (st.Kind == api.Lock || st.Kind == api.Unlock) {
			e.Kind, e.Object = map[int]int{api.Lock: api.Locks, api.Unlock: api.Unlocks}[st.Kind], i
		}
	}
	for i, v := range s.p.Shared {
		for _, part := range postfix(st.E) {
			if part.Op == api.Name && part.Name == v.Name {
				e.Kind, e.Object = api.Reads, i
			}
		}
	}
	for i, v := range s.p.Shared {
		if st.Kind == api.Assign && v.Name == st.Name {
			e.Kind, e.Object = api.Writes, i
		}
	}
	return e, api.OK
}

func (s *secondRun) step(t int) (api.Event, api.Errno) {
	e, err := s.next(t)
	if err != api.OK {
		return api.Event{}, err
	}
	if !s.can(t) {
		return api.Event{}, api.ErrState
	}
	n := s.nodes[t][s.at[t]]
	v, count, trap := api.Value{}, 0, false
	if n.stmt.E.Op != 0 {
		v, count, trap = secondValue(n.stmt.E, func(name string) api.Value { return s.values[s.key(t, name)] })
	}
	holder, taken := s.holder[n.stmt.Name]
	if !trap {
		count++
		trap = n.stmt.Kind == api.Unlock && !(taken && holder == t)
	}
	if s.work[t]+count > s.limit {
		s.work[t], s.how, s.who = s.limit, api.Overrun, t
		return e, api.OK
	}
	s.work[t] += count
	if trap {
		s.how, s.who = api.Trapped, t
		return e, api.OK
	}
	s.at[t] = n.next
	switch n.stmt.Kind {
	case api.Assign:
		s.values[s.key(t, n.stmt.Name)] = v
	case api.Lock:
		s.holder[n.stmt.Name] = t
	case api.Unlock:
		delete(s.holder, n.stmt.Name)
	case api.If, api.While:
		if v.Bits == 0 {
			s.at[t] = n.alt
		}
	case api.Assert:
		if v.Bits == 0 {
			s.how, s.who = api.Failed, t
		}
	}
	s.rest()
	return e, api.OK
}

// rest ends the run, if nobody has, or may do, anything.
func (s *secondRun) rest() {
	left, free := 0, 0
	for t := range s.at {
		if !s.over(t) {
			left++
		}
		if s.can(t) {
			free++
		}
	}
	switch {
	case s.how != 0 || free > 0:
	case left == 0:
		s.how = api.Done
	default:
		s.how = api.Deadlock
	}
}

// postfix tells an expression's parts, each behind its operands.
func postfix(e api.Expr) []api.Expr {
	var list []api.Expr
	for _, kid := range e.Kids {
		list = append(list, postfix(kid)...)
	}
	if e.Op != 0 {
		list = append(list, e)
	}
	return list
}

// secondValue tells an expression's value, how many instructions, whether the last of them trapped.
func secondValue(e api.Expr, known func(string) api.Value) (api.Value, int, bool) {
	var stack []api.Value
	for i, part := range postfix(e) {
		switch part.Op {
		case api.Lit:
			stack = append(stack, part.Lit)
			continue
		case api.Name:
			stack = append(stack, known(part.Name))
			continue
		}
		from := len(stack) - len(part.Kids)
		v, ok := secondOp(part.Op, stack[from:])
		if !ok {
			return api.Value{}, i + 1, true
		}
		stack = append(stack[:from], v)
	}
	return stack[0], len(postfix(e)), false
}

func secondOp(op api.Op, vals []api.Value) (api.Value, bool) {
	a, b := vals[0], vals[len(vals)-1]
	switch a.T {
	case api.Int:
		return secondInts(op, big.NewInt(int64(a.Bits)), big.NewInt(int64(b.Bits)))
	case api.Real:
		return secondReals(op, math.Float64frombits(a.Bits), math.Float64frombits(b.Bits))
	}
	truths := map[api.Op]bool{api.Or: a.Bits+b.Bits > 0, api.And: a.Bits+b.Bits == 2, api.Not: a.Bits == 0, api.Eq: a.Bits == b.Bits, api.Ne: a.Bits != b.Bits}
	return truth(truths[op]), true
}

func secondInts(op api.Op, a, b *big.Int) (api.Value, bool) {
	n := new(big.Int)
	switch op {
	case api.Add:
		n.Add(a, b)
	case api.Sub:
		n.Sub(a, b)
	case api.Mul:
		n.Mul(a, b)
	case api.Neg:
		n.Neg(a)
	case api.Div, api.Mod:
		if b.Sign() == 0 {
			return api.Value{}, false
		}
		if op == api.Div {
			n.Quo(a, b)
		} else {
			n.Rem(a, b)
		}
	case api.ToReal:
		f, _ := new(big.Float).SetInt(a).Float64()
		return float(f), true
	default:
		return secondCompare(op, a.Cmp(b) < 0, a.Cmp(b) == 0, a.Cmp(b) > 0), true
	}
	n.And(n, new(big.Int).SetUint64(math.MaxUint64))
	return api.Value{T: api.Int, Bits: n.Uint64()}, true
}

func secondReals(op api.Op, a, b float64) (api.Value, bool) {
	switch op {
	case api.Add:
		return float(a + b), true
	case api.Sub:
		return float(a - b), true
	case api.Mul:
		return float(a * b), true
	case api.Div:
		return float(a / b), true
	case api.Neg:
		return float(-a), true
	case api.ToInt:
		if !(a >= -1<<63 && a < 1<<63) {
			return api.Value{}, false
		}
		return number(int64(a)), true
	}
	return secondCompare(op, a < b, a == b, a > b), true
}

func secondCompare(op api.Op, less, same, more bool) api.Value {
	return truth(map[api.Op]bool{api.Eq: same, api.Ne: !same, api.Lt: less, api.Le: less || same, api.Gt: more, api.Ge: more || same}[op])
}
