package parse

import (
	"assize/api"
	"assize/tree"
)

// How tight signs of two operands bind, from the loosest on. Signs that bind alike go together from the left, but comparisons do not go together.
const (
	ors = 1 + iota
	ands
	comparisons
	sums
	products
)

// binds tells what a sign of two operands does, and how tight it binds: 0, less than any, if the text is none.
func binds(text string) (api.Op, int) {
	switch text {
	case "||":
		return api.Or, ors
	case "&&":
		return api.And, ands
	case "==":
		return api.Eq, comparisons
	case "!=":
		return api.Ne, comparisons
	case "<":
		return api.Lt, comparisons
	case "<=":
		return api.Le, comparisons
	case ">":
		return api.Gt, comparisons
	case ">=":
		return api.Ge, comparisons
	case "+":
		return api.Add, sums
	case "-":
		return api.Sub, sums
	case "*":
		return api.Mul, products
	case "/":
		return api.Div, products
	case "%":
		return api.Mod, products
	}
	return 0, 0
}

// opens tells what a sign or a word does that stands ahead of its one operand: 0, if the text is none.
func opens(text string) api.Op {
	switch text {
	case "-":
		return api.Neg
	case "!":
		return api.Not
	case "int":
		return api.ToInt
	case "real":
		return api.ToReal
	}
	return 0
}

// expr reads an expression within so many brackets, signs of unary, ints and reals.
func (r *reader) expr(within int) api.Expr { return r.row(ors, within) }

// row reads operands and the signs between them that bind at least so tight.
func (r *reader) row(least, within int) api.Expr {
	left := r.operand(within)
	most := products
	for {
		sign := r.next()
		op, tight := binds(sign.Text)
		if tight < least || tight > most {
			return left
		}
		r.take()
		right := r.row(tight+1, within)
		left = node(sign.At, op, left, right)
		// What binds tighter is in the right operand by now, unless it is a second comparison, which may stand nowhere.
		most = tight
		if tight == comparisons {
			most--
		}
	}
}

// operand reads what stands between signs of two operands.
func (r *reader) operand(within int) api.Expr {
	first := r.next()
	op := opens(first.Text)
	if op == 0 && first.Text != "(" {
		return r.leaf()
	}
	if within >= api.MaxDepth {
		refuse(ErrDepth, first.At)
	}
	switch op {
	case api.Neg, api.Not:
		r.take()
		return node(first.At, op, r.operand(within+1))
	case api.ToInt, api.ToReal:
		r.take()
		return node(first.At, op, r.bracket(within))
	}
	return r.bracket(within)
}

// bracket reads an expression in round brackets that stand within so many.
func (r *reader) bracket(within int) api.Expr {
	r.must("(")
	e := r.expr(within + 1)
	r.must(")")
	return e
}

// leaf reads a literal or a name.
func (r *reader) leaf() api.Expr {
	if v, ok := literal(r.next()); ok {
		r.take()
		return api.Expr{Op: api.Lit, Lit: v}
	}
	return api.Expr{Op: api.Name, Name: r.name()}
}

// node tells an expression of its operands, and refuses it at its sign, if it is too high.
func node(at int, op api.Op, kids ...api.Expr) api.Expr {
	e := api.Expr{Op: op, Kids: kids}
	if tree.Height(e) > api.MaxDepth {
		refuse(ErrDepth, at)
	}
	return e
}
