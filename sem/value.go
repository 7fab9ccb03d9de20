package sem

import (
	"assize/api"
	"assize/check"
	"assize/real"
)

// Value tells an expression's value.
func Value(e api.Expr, names []string, values []api.Value) (api.Value, int, api.Errno) {
	if typed(e) == api.ErrArg || len(names) != len(values) || !allMay(values) {
		return api.Value{}, 0, api.ErrArg
	}
	known := firstOf(names, values)
	filled, ok := fill(e, known)
	if !ok {
		return api.Value{}, 0, api.ErrMissing
	}
	if typed(filled) != api.OK {
		return api.Value{}, 0, api.ErrArg
	}
	v, n, trapped := workOut(e, func(name string) api.Value { return known[name] })
	if trapped {
		return api.Value{}, n, api.ErrState
	}
	return v, n, api.OK
}

// typed tells what check says of an expression where no variables are: ErrArg, if it may not be printed.
func typed(e api.Expr) api.Errno {
	_, err := check.TypeOf(api.Program{Threads: []api.Thread{{Name: "t"}}}, 0, e)
	return err
}

// allMay tells whether all values may be.
func allMay(values []api.Value) bool {
	for _, v := range values {
		if !may(v) {
			return false
		}
	}
	return true
}

// may tells whether a value may be.
func may(v api.Value) bool {
	switch v.T {
	case api.Int:
		return true
	case api.Bool:
		return v.Bits <= 1
	case api.Real:
		return real.May(v.Bits)
	}
	return false
}

// firstOf tells for each name the first value that stands at it.
func firstOf(names []string, values []api.Value) map[string]api.Value {
	known := map[string]api.Value{}
	for i, name := range names {
		if _, there := known[name]; !there {
			known[name] = values[i]
		}
	}
	return known
}

// fill tells an expression in which each Name is a Lit of the name's type, so that its type hangs on no names, of which there may be more than a program can have; false, if a name is not known.
func fill(e api.Expr, known map[string]api.Value) (api.Expr, bool) {
	if e.Op == api.Name {
		v, there := known[e.Name]
		return api.Expr{Op: api.Lit, Lit: api.Value{T: v.T}}, there
	}
	filled := api.Expr{Op: e.Op, Lit: e.Lit, Kids: make([]api.Expr, 0, len(e.Kids))}
	for _, kid := range e.Kids {
		f, there := fill(kid, known)
		if !there {
			return api.Expr{}, false
		}
		filled.Kids = append(filled.Kids, f)
	}
	return filled, true
}

// trap is what leaves an expression that has no value.
type trap struct{}

// isTrap tells by what recover tells whether an expression trapped.
func isTrap(caught any) bool {
	switch caught.(type) {
	case nil:
		return false
	case trap:
		return true
	}
	panic(caught)
}

// worker works an expression out, and counts its instructions, up to one that traps.
type worker struct {
	known func(name string) api.Value
	count int
}

// workOut tells the value of an expression that is of a type, how many instructions it takes, up to a trap, and whether there is one.
func workOut(e api.Expr, known func(name string) api.Value) (api.Value, int, bool) {
	w := &worker{known: known}
	v, trapped := w.attempt(e)
	return v, w.count, trapped
}

// attempt tells an expression's value, or that it traps.
func (w *worker) attempt(e api.Expr) (v api.Value, trapped bool) {
	defer func() { trapped = isTrap(recover()) }()
	return w.value(e).told(), false
}

// value tells an expression's value: a part's instruction comes behind those of its operands, from the left.
func (w *worker) value(e api.Expr) term {
	switch len(e.Kids) {
	case 0:
		w.count++
		return w.leaf(e)
	case 1:
		a := w.value(e.Kids[0])
		w.count++
		return ofOne(e.Op, a)
	}
	a := w.value(e.Kids[0])
	b := w.value(e.Kids[1])
	w.count++
	return ofTwo(e.Op, a, b)
}

// leaf tells the value of a literal or a name.
func (w *worker) leaf(e api.Expr) term {
	if e.Op == api.Name {
		return termOf(w.known(e.Name))
	}
	return termOf(e.Lit)
}
