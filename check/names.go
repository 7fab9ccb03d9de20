package check

import "assize/api"

// What a name stands for.
const (
	sharedVar  = 1
	mutexName  = 2
	threadName = 3
	localVar   = 4
)

// untyped is the type of what has none.
const untyped api.Type = 0

// meaning is what a name stands for: of a variable with its type.
type meaning struct {
	kind int
	t    api.Type
}

// names are what names stand for.
type names map[string]meaning

// common tells the names that all threads know, and whether no two of them are the same.
func common(p api.Program) (names, bool) {
	n := names{}
	once := n.addVars(p.Shared, sharedVar)
	for _, name := range p.Mutexes {
		once = n.add(name, meaning{kind: mutexName}) && once
	}
	return n, once
}

// scope tells the names that a thread knows, and whether no two of them are the same.
func scope(p api.Program, t api.Thread) (names, bool) {
	n, once := common(p)
	return n, n.addVars(t.Locals, localVar) && once
}

// addVars gives variables' names their meaning, and tells whether none of them had one.
func (n names) addVars(vars []api.Var, kind int) bool {
	once := true
	for _, v := range vars {
		once = n.add(v.Name, meaning{kind: kind, t: v.First.T}) && once
	}
	return once
}

// add gives a name its meaning, and tells whether it had none.
func (n names) add(name string, m meaning) bool {
	_, there := n[name]
	n[name] = m
	return !there
}

// misses tells whether a name in a statement stands for nothing.
func (n names) misses(s api.Stmt) bool {
	switch s.Kind {
	case api.Lock, api.Unlock:
		return n[s.Name].kind != mutexName
	case api.Assign:
		return n.lacks(s.Name) || n.lacksAny(s.E)
	}
	return n.lacksAny(s.E)
}

// lacksAny tells whether a Name in an expression stands for no variable.
func (n names) lacksAny(e api.Expr) bool {
	for _, kid := range e.Kids {
		if n.lacksAny(kid) {
			return true
		}
	}
	return e.Op == api.Name && n.lacks(e.Name)
}

// lacks tells whether a name stands for no variable.
func (n names) lacks(name string) bool {
	m := n[name]
	return m.kind != sharedVar && m.kind != localVar
}

// mistypes tells whether a statement's expression is not of the type that it must be.
func (n names) mistypes(s api.Stmt) bool {
	switch s.Kind {
	case api.Assign:
		return n.typeOf(s.E) != n[s.Name].t
	case api.Assert, api.If, api.While:
		return n.typeOf(s.E) != api.Bool
	}
	return false
}

// typeOf tells the type of an expression that may be printed, whose Names all stand for variables.
func (n names) typeOf(e api.Expr) api.Type {
	switch e.Op {
	case api.Lit:
		return e.Lit.T
	case api.Name:
		return n[e.Name].t
	}
	t := n.typeOf(e.Kids[0])
	for _, kid := range e.Kids[1:] {
		if n.typeOf(kid) != t {
			return untyped
		}
	}
	return result(e.Op, t)
}

// result tells the type of what an operator makes of operands of one type.
func result(op api.Op, t api.Type) api.Type {
	number := t == api.Int || t == api.Real
	switch op {
	case api.Or, api.And, api.Not:
		return only(t == api.Bool, api.Bool)
	case api.Eq, api.Ne:
		return only(t != untyped, api.Bool)
	case api.Lt, api.Le, api.Gt, api.Ge:
		return only(number, api.Bool)
	case api.Add, api.Sub, api.Mul, api.Div, api.Neg:
		return only(number, t)
	case api.Mod:
		return only(t == api.Int, api.Int)
	case api.ToInt:
		return only(t == api.Real, api.Int)
	case api.ToReal:
		return only(t == api.Int, api.Real)
	}
	return untyped
}

// only tells a type, or that there is none.
func only(fits bool, t api.Type) api.Type {
	if fits {
		return t
	}
	return untyped
}

// tangles tells whether a statement touches two shared variables, or one twice.
func (n names) tangles(s api.Stmt) bool {
	touched := n.sharedIn(s.E)
	if s.Kind == api.Assign && n[s.Name].kind == sharedVar {
		touched++
	}
	return touched > 1
}

// sharedIn tells how many Names in an expression are shared variables.
func (n names) sharedIn(e api.Expr) int {
	count := 0
	if e.Op == api.Name && n[e.Name].kind == sharedVar {
		count++
	}
	for _, kid := range e.Kids {
		count += n.sharedIn(kid)
	}
	return count
}
