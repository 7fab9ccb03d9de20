// Package sample makes programs, codes and expressions that may be, for tests: which ones, a function chooses that is handed in.
package sample

import (
	"slices"
	"strconv"

	"assize/api"
)

// Pick chooses a number from 0 on below n, which is at least 1.
type Pick func(n int) int

// maker makes the parts of one program or code.
type maker struct {
	pick   Pick
	p      api.Program
	locals []api.Var
	shared int // how many shared variables the statement or node may still name
}

// Program makes a program that may be, of few threads and short blocks: many of its loops end, and most of its asserts hold.
func Program(pick Pick) api.Program {
	m := &maker{pick: pick}
	m.p.Shared = m.vars("x", pick(4))
	for i := range pick(3) {
		m.p.Mutexes = append(m.p.Mutexes, "m"+strconv.Itoa(i))
	}
	for i := range 1 + pick(3) {
		m.locals = m.vars("i", pick(4))
		t := api.Thread{Name: "t" + strconv.Itoa(i), Locals: m.locals, Body: m.block(3)}
		m.p.Threads = append(m.p.Threads, t)
	}
	return m.p
}

// Expr makes an expression of a type, at most so high, that names these variables alone, each as often as it likes.
func Expr(pick Pick, t api.Type, high int, vars []api.Var) api.Expr {
	m := &maker{pick: pick, locals: vars}
	return m.expr(t, high)
}

// Value makes a value of a type that may be a literal, or, if any is true, any value of it: small ones, and those at the edges, often.
func Value(pick Pick, t api.Type, any bool) api.Value {
	v := api.Value{T: t}
	switch {
	case t == api.Bool:
		v.Bits = uint64(pick(2))
	case t == api.Int && any && pick(3) == 0:
		v.Bits = oneOf[uint64](pick, 1<<63, 1<<63+1, 1<<64-1, 1<<64-2, 1<<64-7, 1<<32, 1<<53+1)
	case t == api.Int:
		v.Bits = oneOf[uint64](pick, 0, 1, 1, 2, 3, 5, 7, 1<<63-1)
	case any && pick(3) == 0:
		v.Bits = oneOf[uint64](pick, 1<<63, 0xfff<<52, 1, 0x43e<<52, 0xc3e<<52, 0xc3e<<52+1, 0x7fefffffffffffff, 0x3fb999999999999b)
	default:
		v.Bits = oneOf[uint64](pick, api.NaN, 0x7ff<<52, 0, 0x3fe<<52, 0x3ff<<52, 0x400<<52, 0x3fb999999999999a, 0x4004<<48)
	}
	return v
}

// Type makes a type.
func Type(pick Pick) api.Type { return oneOf(pick, api.Int, api.Int, api.Bool, api.Real) }

// oneOf chooses one of a list.
func oneOf[T any](pick Pick, list ...T) T { return list[pick(len(list))] }

// vars makes so many variables, whose names begin so.
func (m *maker) vars(name string, n int) []api.Var {
	var list []api.Var
	for i := range n {
		t := Type(m.pick)
		v := Value(m.pick, t, false)
		if t != api.Bool && v.Bits != api.NaN && m.pick(4) == 0 {
			v.Bits = negated(v)
		}
		list = append(list, api.Var{Name: name + strconv.Itoa(i), First: v})
	}
	return list
}

// negated tells the bits of a number with the other sign.
func negated(v api.Value) uint64 {
	if v.T == api.Int {
		return -v.Bits
	}
	return v.Bits ^ 1<<63
}

// block makes a list of statements, in which blocks stand at most so deep.
func (m *maker) block(deep int) []api.Stmt {
	var list []api.Stmt
	for range m.pick(4) {
		list = append(list, m.stmt(deep))
	}
	return list
}

func (m *maker) stmt(deep int) api.Stmt {
	m.shared = 1
	switch m.pick(12) {
	case 0, 1:
		if len(m.p.Mutexes) > 0 {
			return api.Stmt{Kind: api.Lock + m.pick(2), Name: oneOf(m.pick, m.p.Mutexes...)}
		}
	case 2:
		return m.assert()
	case 3, 4:
		if deep > 0 {
			s := api.Stmt{Kind: api.If, E: m.expr(api.Bool, 3)}
			s.Body, s.Else = m.block(deep-1), m.block(deep-1)
			return s
		}
	case 5, 6:
		if deep > 0 {
			return m.loop(deep)
		}
	case 7:
		return api.Stmt{Kind: api.Skip}
	}
	return m.assign()
}

// assert makes one that often holds.
func (m *maker) assert() api.Stmt {
	e := m.expr(api.Bool, 3)
	if m.pick(4) > 0 {
		e = api.Expr{Op: api.Or, Kids: []api.Expr{e, {Op: api.Lit, Lit: api.Value{T: api.Bool, Bits: 1}}}}
	}
	return api.Stmt{Kind: api.Assert, E: e}
}

// assign makes an Assign, or a Skip, if there are no variables.
func (m *maker) assign() api.Stmt {
	vars := append(slices.Clone(m.p.Shared), m.locals...)
	if len(vars) == 0 {
		return api.Stmt{Kind: api.Skip}
	}
	at := m.pick(len(vars))
	if at < len(m.p.Shared) {
		m.shared = 0
	}
	return api.Stmt{Kind: api.Assign, Name: vars[at].Name, E: m.expr(vars[at].First.T, 3)}
}

// loop makes a While: mostly one that counts up a local and so ends.
func (m *maker) loop(deep int) api.Stmt {
	for _, v := range m.locals {
		if v.First.T == api.Int && m.pick(3) > 0 {
			i := api.Expr{Op: api.Name, Name: v.Name}
			up := api.Expr{Op: api.Add, Kids: []api.Expr{i, {Op: api.Lit, Lit: api.Value{T: api.Int, Bits: 1}}}}
			most := api.Expr{Op: api.Lit, Lit: api.Value{T: api.Int, Bits: uint64(m.pick(6))}}
			body := append(m.block(deep-1), api.Stmt{Kind: api.Assign, Name: v.Name, E: up})
			return api.Stmt{Kind: api.While, E: api.Expr{Op: api.Lt, Kids: []api.Expr{i, most}}, Body: body}
		}
	}
	e := m.expr(api.Bool, 3)
	return api.Stmt{Kind: api.While, E: e, Body: m.block(deep - 1)}
}

// expr makes an expression of a type, at most so high.
func (m *maker) expr(t api.Type, high int) api.Expr {
	if high <= 1 || m.pick(4) == 0 {
		return m.leaf(t)
	}
	op, from := m.operator(t)
	e := api.Expr{Op: op, Kids: []api.Expr{m.expr(from, high-1)}}
	if op < api.Neg {
		e.Kids = append(e.Kids, m.expr(from, high-1))
	}
	return e
}

// operator makes an operator whose value is of a type, and the type of its operands.
func (m *maker) operator(t api.Type) (api.Op, api.Type) {
	switch {
	case t == api.Bool && m.pick(2) == 0:
		return oneOf(m.pick, api.Or, api.And, api.Not, api.Eq, api.Ne), api.Bool
	case t == api.Bool:
		return oneOf(m.pick, api.Eq, api.Ne, api.Lt, api.Le, api.Gt, api.Ge), oneOf(m.pick, api.Int, api.Real)
	case t == api.Int && m.pick(5) == 0:
		return api.ToInt, api.Real
	case t == api.Real && m.pick(5) == 0:
		return api.ToReal, api.Int
	case t == api.Int && m.pick(6) == 0:
		return api.Mod, api.Int
	}
	return oneOf(m.pick, api.Add, api.Sub, api.Mul, api.Div, api.Neg), t
}

// leaf makes a literal or a name of a type.
func (m *maker) leaf(t api.Type) api.Expr {
	e := api.Expr{Op: api.Lit, Lit: Value(m.pick, t, false)}
	vars := m.locals
	if m.shared > 0 {
		vars = append(slices.Clone(m.p.Shared), m.locals...)
	}
	at := m.pick(len(vars) + 1)
	if at == len(vars) || vars[at].First.T != t {
		return e
	}
	if slices.Contains(m.p.Shared, vars[at]) {
		m.shared = 0
	}
	return api.Expr{Op: api.Name, Name: vars[at].Name}
}
