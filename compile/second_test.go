package compile_test

import (
	"slices"

	"assize/api"
)

// A second compiler: it knows of each statement in which block of which other one it stands, and climbs from there to what follows.

// spot is a statement and where it stands: the statement around it (-1: none), and which of its block's it is.
type spot struct {
	stmt   *api.Stmt
	around int
	block  []api.Stmt
	at     int
}

type secondThread struct {
	p     api.Program
	t     api.Thread
	spots []spot
}

// spread writes down the statements of a block by their numbers.
func (s *secondThread) spread(around int, block []api.Stmt) {
	for i := range block {
		n := len(s.spots)
		s.spots = append(s.spots, spot{&block[i], around, block, i})
		s.spread(n, block[i].Body)
		s.spread(n, block[i].Else)
	}
}

// numberOf tells the number of the first statement of a block that is not empty.
func (s *secondThread) numberOf(block []api.Stmt) int {
	return slices.IndexFunc(s.spots, func(x spot) bool { return x.stmt == &block[0] })
}

// behind tells what follows a statement.
func (s *secondThread) behind(n int) int {
	x := s.spots[n]
	switch {
	case x.at+1 < len(x.block):
		return s.numberOf(x.block[x.at+1:])
	case x.around < 0:
		return len(s.spots)
	case s.spots[x.around].stmt.Kind == api.While:
		return x.around
	}
	return s.behind(x.around)
}

// roads tells where a statement goes on.
func (s *secondThread) roads(n int) (next, alt int) {
	st := s.spots[n].stmt
	next = s.behind(n)
	switch st.Kind {
	case api.If:
		alt = next
		if len(st.Else) > 0 {
			alt = s.numberOf(st.Else)
		}
	case api.While:
		next, alt = n, next
	}
	if len(st.Body) > 0 {
		next = s.numberOf(st.Body)
	}
	return next, alt
}

// place tells the number of a variable of that name; false, if there is none.
func place(vars []api.Var, name string) (int, bool) {
	at := slices.IndexFunc(vars, func(v api.Var) bool { return v.Name == name })
	return at, at >= 0
}

// postfix tells an expression's instructions; a zero expression has none.
func (s *secondThread) postfix(e api.Expr) []api.Instr {
	var list []api.Instr
	for _, kid := range e.Kids {
		list = slices.Concat(list, s.postfix(kid))
	}
	local, isLocal := place(s.t.Locals, e.Name)
	shared, isShared := place(s.p.Shared, e.Name)
	switch {
	case e.Op == 0:
		return nil
	case isLocal:
		list = append(list, api.Instr{Op: api.Load, Arg: local})
	case isShared:
		list = append(list, api.Instr{Op: api.Fetch, Arg: shared})
	default:
		list = append(list, api.Instr{Op: e.Op, Lit: e.Lit})
	}
	return list
}

// node tells a statement's node.
func (s *secondThread) node(number int) api.Node {
	st := s.spots[number].stmt
	n := api.Node{Code: s.postfix(st.E)}
	n.Next, n.Alt = s.roads(number)
	n.Kind = map[int]int{
		api.Assign: api.SetShared, api.Lock: api.Take, api.Unlock: api.Give, api.Assert: api.Demand,
		api.If: api.Branch, api.While: api.Branch, api.Skip: api.Pass,
	}[st.Kind]
	if at, ok := place(s.p.Shared, st.Name); ok {
		n.Arg = at
	}
	if at, ok := place(s.t.Locals, st.Name); ok {
		n.Kind, n.Arg = api.SetLocal, at
	}
	if at := slices.Index(s.p.Mutexes, st.Name); at >= 0 {
		n.Arg = at
	}
	return n
}

// most tells how many ever stand on a stack by instructions.
func most(list []api.Instr) int {
	high, greatest := 0, 0
	for _, i := range list {
		switch {
		case i.Op == api.Lit || i.Op >= api.Load:
			high++
		case i.Op < api.Neg:
			high--
		}
		greatest = max(greatest, high)
	}
	return greatest
}

// secondCompile tells the code of a program that may be.
func secondCompile(p api.Program) api.Code {
	c := api.Code{Mutexes: len(p.Mutexes)}
	for _, v := range p.Shared {
		c.Shared = append(c.Shared, v.First)
	}
	for _, t := range p.Threads {
		s := &secondThread{p: p, t: t}
		s.spread(-1, t.Body)
		var b api.Body
		for _, v := range t.Locals {
			b.Locals = append(b.Locals, v.First)
		}
		for i := range s.spots {
			n := s.node(i)
			b.Nodes = append(b.Nodes, n)
			b.Stack = max(b.Stack, most(n.Code))
		}
		c.Bodies = append(c.Bodies, b)
	}
	return c
}
