package sem

import (
	"assize/api"
	"assize/real"
)

// term is a value as it is reckoned with: which type it is of says what is done with it.
type term interface {
	told() api.Value
}

// whole, truth and float are an Int, a Bool, and a Real by its bits.
type (
	whole int64
	truth bool
	float uint64
)

func (a whole) told() api.Value { return api.Value{T: api.Int, Bits: uint64(a)} }

func (a truth) told() api.Value {
	v := api.Value{T: api.Bool}
	if a {
		v.Bits = 1
	}
	return v
}

func (a float) told() api.Value { return api.Value{T: api.Real, Bits: uint64(a)} }

// termOf tells a value that may be as a term.
func termOf(v api.Value) term {
	switch v.T {
	case api.Int:
		return whole(v.Bits)
	case api.Bool:
		return truth(v.Bits != 0)
	}
	return float(v.Bits)
}

// ofOne tells what an operator makes of one operand. Types that it does not take don't come.
func ofOne(op api.Op, a term) term {
	switch a := a.(type) {
	case whole:
		if op == api.ToReal {
			return float(real.FromInt(int64(a)))
		}
		return -a
	case float:
		if op == api.ToInt {
			return cut(a)
		}
		return float(real.Neg(uint64(a)))
	}
	return !a.(truth)
}

// cut tells a real's whole part.
func cut(a float) whole {
	n, fits := real.ToInt(uint64(a))
	if !fits {
		panic(trap{})
	}
	return whole(n)
}

// ofTwo tells what an operator makes of two operands. Types that it does not take, or that are not the same, don't come.
func ofTwo(op api.Op, a, b term) term {
	switch a := a.(type) {
	case whole:
		return ofWholes(op, a, b.(whole))
	case float:
		return ofFloats(op, uint64(a), uint64(b.(float)))
	}
	return ofTruths(op, a.(truth), b.(truth))
}

func ofWholes(op api.Op, a, b whole) term {
	switch op {
	case api.Add:
		return a + b
	case api.Sub:
		return a - b
	case api.Mul:
		return a * b
	case api.Div, api.Mod:
		return divided(op, a, b)
	}
	return compared(op, a < b, a == b, b < a)
}

// divided tells the quotient, or what is left.
func divided(op api.Op, a, b whole) whole {
	if b == 0 {
		panic(trap{})
	}
	if op == api.Div {
		return a / b
	}
	return a % b
}

func ofFloats(op api.Op, a, b uint64) term {
	switch op {
	case api.Add:
		return float(real.Add(a, b))
	case api.Sub:
		return float(real.Sub(a, b))
	case api.Mul:
		return float(real.Mul(a, b))
	case api.Div:
		return float(real.Div(a, b))
	}
	return compared(op, real.Less(a, b), real.Equal(a, b), real.Less(b, a))
}

func ofTruths(op api.Op, a, b truth) term {
	switch op {
	case api.Or:
		return a || b
	case api.And:
		return a && b
	}
	return compared(op, false, a == b, false)
}

// compared tells whether one operand is to the other as the operator asks. Of a NaN nothing is so but that it is not the same.
func compared(op api.Op, less, same, more bool) truth {
	switch op {
	case api.Eq:
		return truth(same)
	case api.Ne:
		return truth(!same)
	case api.Lt:
		return truth(less)
	case api.Le:
		return truth(less || same)
	case api.Gt:
		return truth(more)
	}
	return truth(more || same)
}
