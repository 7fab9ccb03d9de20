package sample

import (
	"slices"

	"assize/api"
)

// Code makes a code that may be, of few bodies and nodes, which go on at any node: most are of no program.
func Code(pick Pick) api.Code {
	m := &maker{pick: pick}
	m.p.Shared = m.vars("x", pick(4))
	c := api.Code{Shared: m.firsts(m.p.Shared), Mutexes: pick(3)}
	for range 1 + pick(3) {
		m.locals = m.vars("i", pick(4))
		c.Bodies = append(c.Bodies, m.body(c.Mutexes))
	}
	return c
}

// firsts makes first values for variables, any ones of their types.
func (m *maker) firsts(vars []api.Var) []api.Value {
	var list []api.Value
	for _, v := range vars {
		list = append(list, Value(m.pick, v.First.T, true))
	}
	return list
}

// body makes a body, whose stack may have some room to spare.
func (m *maker) body(mutexes int) api.Body {
	b := api.Body{Locals: m.firsts(m.locals)}
	nodes := m.pick(7)
	for range nodes {
		n, most := m.node(mutexes)
		n.Next = m.pick(nodes + 1)
		if n.Kind == api.Branch {
			n.Alt = m.pick(nodes + 1)
		}
		b.Nodes = append(b.Nodes, n)
		b.Stack = max(b.Stack, most)
	}
	b.Stack += m.pick(3)
	return b
}

// node makes a node but for where it goes on, and how much stands on its stack at most.
func (m *maker) node(mutexes int) (api.Node, int) {
	kind := 1 + m.pick(7)
	m.shared = 1
	switch {
	case kind == api.SetLocal && len(m.locals) > 0:
		at := m.pick(len(m.locals))
		return m.valueNode(kind, at, m.locals[at].First.T)
	case kind == api.SetShared && len(m.p.Shared) > 0:
		at := m.pick(len(m.p.Shared))
		m.shared = 0
		return m.valueNode(kind, at, m.p.Shared[at].First.T)
	case (kind == api.Take || kind == api.Give) && mutexes > 0:
		return api.Node{Kind: kind, Arg: m.pick(mutexes)}, 0
	case kind == api.Demand || kind == api.Branch:
		return m.valueNode(kind, 0, api.Bool)
	}
	return api.Node{Kind: api.Pass}, 0
}

// valueNode makes a node that works out a value of a type.
func (m *maker) valueNode(kind, arg int, t api.Type) (api.Node, int) {
	e := m.expr(t, 1+m.pick(5))
	return api.Node{Kind: kind, Arg: arg, Code: m.instrs(e, nil)}, height(e)
}

// instrs puts an expression's instructions behind others.
func (m *maker) instrs(e api.Expr, list []api.Instr) []api.Instr {
	for _, kid := range e.Kids {
		list = m.instrs(kid, list)
	}
	named := func(v api.Var) bool { return v.Name == e.Name }
	switch e.Op {
	case api.Lit:
		return append(list, api.Instr{Op: api.Lit, Lit: Value(m.pick, e.Lit.T, m.pick(4) == 0)})
	case api.Name:
		if at := slices.IndexFunc(m.locals, named); at >= 0 {
			return append(list, api.Instr{Op: api.Load, Arg: at})
		}
		return append(list, api.Instr{Op: api.Fetch, Arg: slices.IndexFunc(m.p.Shared, named)})
	}
	return append(list, api.Instr{Op: e.Op})
}

// height tells how many values stand on the stack at most while an expression is worked out.
func height(e api.Expr) int {
	most := 1
	for i, kid := range e.Kids {
		most = max(most, i+height(kid))
	}
	return most
}
