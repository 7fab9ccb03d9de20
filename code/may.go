package code

import (
	"slices"

	"assize/api"
	"assize/real"
)

// tooLong tells whether there is too much of something, or no body.
func tooLong(c api.Code) bool {
	return len(c.Bodies) == 0 || len(c.Bodies) > api.MaxThreads || len(c.Shared) > api.MaxShared ||
		slices.ContainsFunc(c.Bodies, longBody)
}

// longBody tells whether a body has too much of something.
func longBody(b api.Body) bool {
	return len(b.Locals) > api.MaxLocals || len(b.Nodes) > api.MaxNodes ||
		slices.ContainsFunc(b.Nodes, func(n api.Node) bool { return len(n.Code) > api.MaxInstrs })
}

// wrongPart tells whether a number, a value, an instruction or what a node does last may not be, whatever the types are.
func wrongPart(c api.Code) bool {
	return !isPlace(c.Mutexes, api.MaxMutexes+1) || !all(c.Shared, mayValue) ||
		!all(c.Bodies, func(b api.Body) bool { return (&scope{c, b}).mayBody() })
}

// scope is a body in its code: what its nodes may name.
type scope struct {
	api.Code
	api.Body
}

// mayBody tells whether the parts of the body may be.
func (s *scope) mayBody() bool {
	return all(s.Locals, mayValue) && isPlace(s.Stack, api.MaxStack+1) && all(s.Nodes, s.mayNode)
}

// mayNode tells whether the parts of a node may be.
func (s *scope) mayNode(n api.Node) bool {
	return all(n.Code, s.mayInstr) && s.mayArg(n) && s.mayAlt(n) && isPlace(n.Next, len(s.Nodes)+1)
}

// mayInstr tells whether an instruction may be.
func (s *scope) mayInstr(i api.Instr) bool {
	none := api.Value{}
	switch i.Op {
	case api.Lit:
		return i.Arg == 0 && mayValue(i.Lit)
	case api.Load:
		return isPlace(i.Arg, len(s.Locals)) && i.Lit == none
	case api.Fetch:
		return isPlace(i.Arg, len(s.Shared)) && i.Lit == none
	}
	return i.Op >= api.Or && i.Op <= api.ToReal && i.Arg == 0 && i.Lit == none
}

// mayArg tells whether what a node does last may be, with what it is done.
func (s *scope) mayArg(n api.Node) bool {
	switch n.Kind {
	case api.SetLocal:
		return isPlace(n.Arg, len(s.Locals))
	case api.SetShared:
		return isPlace(n.Arg, len(s.Shared))
	case api.Take, api.Give:
		return isPlace(n.Arg, s.Mutexes)
	case api.Demand, api.Branch, api.Pass:
		return n.Arg == 0
	}
	return false
}

// mayAlt tells whether a node may go on at its Alt, which of others than Branch says nothing.
func (s *scope) mayAlt(n api.Node) bool {
	return n.Alt == 0 || n.Kind == api.Branch && isPlace(n.Alt, len(s.Nodes)+1)
}

// touchesTwo tells whether a node touches two shared variables, or one twice.
func touchesTwo(c api.Code) bool {
	return slices.ContainsFunc(c.Bodies, func(b api.Body) bool { return slices.ContainsFunc(b.Nodes, tangled) })
}

// tangled tells whether a node touches two shared variables, or one twice.
func tangled(n api.Node) bool {
	count := 0
	if n.Kind == api.SetShared {
		count++
	}
	for _, i := range n.Code {
		if isFetch(i) {
			count++
		}
	}
	return count > 1
}

// mayValue tells whether a value may be.
func mayValue(v api.Value) bool {
	return v.T == api.Int || v.T == api.Bool && v.Bits <= 1 || v.T == api.Real && real.May(v.Bits)
}

// isPlace tells whether a number is one from 0 on below another one.
func isPlace(n, above int) bool { return n >= 0 && n < above }

// all tells whether all of a list may be.
func all[T any](list []T, may func(T) bool) bool {
	for _, x := range list {
		if !may(x) {
			return false
		}
	}
	return true
}
