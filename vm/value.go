package vm

import (
	"assize/api"
	"assize/real"
)

// whole tells an Int.
func whole(n int64) api.Value { return api.Value{T: api.Int, Bits: uint64(n)} }

// float tells a Real by its bits.
func float(bits uint64) api.Value { return api.Value{T: api.Real, Bits: bits} }

// truth tells a Bool.
func truth(yes bool) api.Value {
	v := api.Value{T: api.Bool}
	if yes {
		v.Bits = 1
	}
	return v
}

// ofOne tells what an operator makes of one operand. Types that it does not take don't come.
func ofOne(op api.Op, a api.Value) api.Value {
	switch op {
	case api.Not:
		return truth(a.Bits == 0)
	case api.ToInt:
		return whole(cut(a.Bits))
	case api.ToReal:
		return float(real.FromInt(int64(a.Bits)))
	}
	if a.T == api.Real {
		return float(real.Neg(a.Bits))
	}
	return whole(-int64(a.Bits))
}

// cut tells a real's whole part.
func cut(bits uint64) int64 {
	n, fits := real.ToInt(bits)
	if !fits {
		panic(trap{})
	}
	return n
}

// ofTwo tells what an operator makes of two operands. Types that it does not take, or that are not the same, don't come.
func ofTwo(op api.Op, a, b api.Value) api.Value {
	switch a.T {
	case api.Int:
		return ofWholes(op, int64(a.Bits), int64(b.Bits))
	case api.Real:
		return ofFloats(op, a.Bits, b.Bits)
	}
	return ofTruths(op, a.Bits != 0, b.Bits != 0)
}

// ofWholes tells what an operator makes of two Ints.
func ofWholes(op api.Op, a, b int64) api.Value {
	switch op {
	case api.Add:
		return whole(a + b)
	case api.Sub:
		return whole(a - b)
	case api.Mul:
		return whole(a * b)
	case api.Div:
		return whole(a / divisor(b))
	case api.Mod:
		return whole(a % divisor(b))
	}
	return compared(op, a < b, a == b, b < a)
}

// divisor tells a number by which one may divide.
func divisor(n int64) int64 {
	if n == 0 {
		panic(trap{})
	}
	return n
}

// ofFloats tells what an operator makes of two Reals.
func ofFloats(op api.Op, a, b uint64) api.Value {
	switch op {
	case api.Add:
		return float(real.Add(a, b))
	case api.Sub:
		return float(real.Sub(a, b))
	case api.Mul:
		return float(real.Mul(a, b))
	case api.Div:
		return float(real.Div(a, b))
	}
	return compared(op, real.Less(a, b), real.Equal(a, b), real.Less(b, a))
}

// ofTruths tells what an operator makes of two Bools.
func ofTruths(op api.Op, a, b bool) api.Value {
	switch op {
	case api.Or:
		return truth(a || b)
	case api.And:
		return truth(a && b)
	}
	return compared(op, false, a == b, false)
}

// compared tells whether one operand is to the other as the operator asks. Of a NaN nothing is so but that it is not the same.
func compared(op api.Op, less, same, more bool) api.Value {
	switch op {
	case api.Eq:
		return truth(same)
	case api.Ne:
		return truth(!same)
	case api.Lt:
		return truth(less)
	case api.Le:
		return truth(less || same)
	case api.Gt:
		return truth(more)
	}
	return truth(more || same)
}
