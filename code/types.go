package code

import (
	"slices"

	"assize/api"
)

// untyped is the type of what has none.
const untyped api.Type = 0

// byType tells a type for each type; untyped, if there is none.
type byType [api.Real + 1]api.Type

// operator is how many operands an operator takes off the stack, all of one type, and by that type the type that it puts on it.
type operator struct {
	operands int
	makes    byType
}

// operators tells the operators, each at its own number.
func operators() [api.ToReal + 1]operator {
	return [...]operator{
		api.Or:     {2, byType{api.Bool: api.Bool}},
		api.And:    {2, byType{api.Bool: api.Bool}},
		api.Eq:     {2, byType{api.Int: api.Bool, api.Bool: api.Bool, api.Real: api.Bool}},
		api.Ne:     {2, byType{api.Int: api.Bool, api.Bool: api.Bool, api.Real: api.Bool}},
		api.Lt:     {2, byType{api.Int: api.Bool, api.Real: api.Bool}},
		api.Le:     {2, byType{api.Int: api.Bool, api.Real: api.Bool}},
		api.Gt:     {2, byType{api.Int: api.Bool, api.Real: api.Bool}},
		api.Ge:     {2, byType{api.Int: api.Bool, api.Real: api.Bool}},
		api.Add:    {2, byType{api.Int: api.Int, api.Real: api.Real}},
		api.Sub:    {2, byType{api.Int: api.Int, api.Real: api.Real}},
		api.Mul:    {2, byType{api.Int: api.Int, api.Real: api.Real}},
		api.Div:    {2, byType{api.Int: api.Int, api.Real: api.Real}},
		api.Mod:    {2, byType{api.Int: api.Int}},
		api.Neg:    {1, byType{api.Int: api.Int, api.Real: api.Real}},
		api.Not:    {1, byType{api.Bool: api.Bool}},
		api.ToInt:  {1, byType{api.Real: api.Int}},
		api.ToReal: {1, byType{api.Int: api.Real}},
	}
}

// wrongType tells whether a node finds or leaves something else on its stack than it may; all parts of the code may be.
func wrongType(c api.Code) bool {
	return !all(c.Bodies, func(b api.Body) bool {
		t := &typer{scope: scope{c, b}, operators: operators()}
		return all(b.Nodes, t.fits)
	})
}

// typer goes through a body's instructions, and keeps the types that stand on the stack, the upper ones last.
type typer struct {
	scope
	operators [api.ToReal + 1]operator
	types     []api.Type
}

// fits tells whether a node finds on the stack what it may, and leaves there what it must.
func (t *typer) fits(n api.Node) bool {
	t.types = t.types[:0]
	return all(n.Code, t.run) && slices.Equal(t.types, t.wanted(n))
}

// run does what an instruction does to the types; false, if it finds others than it may have, or there are more then than may be.
func (t *typer) run(i api.Instr) bool {
	switch i.Op {
	case api.Lit:
		return t.put(i.Lit)
	case api.Load:
		return t.put(t.Locals[i.Arg])
	case api.Fetch:
		return t.put(t.Shared[i.Arg])
	}
	return t.operate(t.operators[i.Op])
}

// put puts a value's type on the stack, if there is room.
func (t *typer) put(v api.Value) bool {
	t.types = append(t.types, v.T)
	return len(t.types) <= t.Stack
}

// operate takes an operator's operands off the stack, and puts its value's type there; false, if it may not have these.
func (t *typer) operate(o operator) bool {
	left := len(t.types) - o.operands
	if left < 0 {
		return false
	}
	first, last := t.types[left], t.types[len(t.types)-1]
	t.types = append(t.types[:left], o.makes[first])
	return first == last && o.makes[first] != untyped
}

// wanted tells what must stand on the stack behind a node's instructions.
func (t *typer) wanted(n api.Node) []api.Type {
	switch n.Kind {
	case api.SetLocal:
		return []api.Type{t.Locals[n.Arg].T}
	case api.SetShared:
		return []api.Type{t.Shared[n.Arg].T}
	case api.Demand, api.Branch:
		return []api.Type{api.Bool}
	}
	return nil
}
