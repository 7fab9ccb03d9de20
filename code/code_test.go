package code_test

import (
	"bytes"
	"fmt"
	"math"
	"runtime"
	"slices"
	"testing"

	"assize/api"
	"assize/code"
)

const otherNaN = api.NaN + 1

// times tells as many of something.
func times[T any](n int, x T) []T { return slices.Repeat([]T{x}, n) }

// full tells a code with each kind of node and each kind of value, that may be.
func full() api.Code {
	return api.Code{
		Shared: []api.Value{number(-3), truth(1), bits(api.NaN)}, Mutexes: 2,
		Bodies: []api.Body{
			{Locals: []api.Value{number(7), bits(1 << 63)}, Stack: 3, Nodes: []api.Node{
				{Code: []api.Instr{load(0), fetch(0), lit(number(-1)), op(api.Mul), op(api.Add)}, Kind: api.SetLocal, Arg: 0, Next: 1},
				{Code: []api.Instr{load(1), op(api.Neg)}, Kind: api.SetShared, Arg: 2, Next: 2},
				{Kind: api.Take, Arg: 1, Next: 3},
				{Code: []api.Instr{fetch(1), op(api.Not)}, Kind: api.Demand, Next: 4},
				{Code: []api.Instr{lit(truth(1))}, Kind: api.Branch, Next: 5, Alt: 6},
				{Kind: api.Give, Arg: 0, Next: 6},
			}},
			{Stack: 1, Nodes: []api.Node{{Kind: api.Pass, Next: 1}}},
		},
	}
}

// spoiled tells the full code with something changed.
func spoiled(changes ...func(*api.Code)) api.Code {
	c := full()
	for _, change := range changes {
		change(&c)
	}
	return c
}

// P9.1, kind by kind

func TestWhatMayBe(t *testing.T) {
	for _, c := range []api.Code{
		one(0), one(64), one(1), full(),
		one(0, node(api.Pass, 0)),
		one(64, node(api.Pass, 0), api.Node{Kind: api.Pass, Next: 2}),
		one(1, node(api.Demand, 0, lit(truth(0))), api.Node{Code: []api.Instr{lit(truth(1))}, Kind: api.Branch, Next: 2, Alt: 2}),
		{Mutexes: 16, Bodies: []api.Body{{}}},
		{Shared: []api.Value{bits(api.NaN), bits(0x7ff << 52), bits(0xfff << 52), bits(1 << 63), number(math.MinInt64)}, Bodies: []api.Body{{}}},
		with(number(0), number(0), 0, node(api.Take, 1), node(api.Give, 0)),
		with(number(0), number(0), 1, node(api.SetLocal, 0, fetch(0)), node(api.SetShared, 0, load(0))),
		{Shared: []api.Value{}, Bodies: []api.Body{{Locals: []api.Value{}, Nodes: []api.Node{{Code: []api.Instr{}, Kind: api.Pass}}}}},
	} {
		checkCode(t, c, api.OK)
	}
}

func TestTooMuch(t *testing.T) {
	body := api.Body{}
	checkCode(t, api.Code{Bodies: []api.Body{}}, api.ErrLong)
	checkCode(t, api.Code{Shared: times(3, number(0)), Mutexes: 1}, api.ErrLong)
	checkCode(t, api.Code{Bodies: times(16, body)}, api.OK)
	checkCode(t, api.Code{Bodies: times(17, body)}, api.ErrLong)
	checkCode(t, api.Code{Shared: times(32, number(0)), Bodies: times(16, body)}, api.OK)
	checkCode(t, api.Code{Shared: times(33, number(0)), Bodies: times(2, body)}, api.ErrLong)
	pass, flips := node(api.Pass, 0), append([]api.Instr{lit(truth(0))}, times(8191, op(api.Not))...)
	for at := range 3 {
		c := api.Code{Bodies: times(3, body)}
		b := &c.Bodies[at]
		b.Locals, b.Nodes = times(16, number(0)), times(1024, pass)
		checkCode(t, c, api.OK)
		b.Locals = append(b.Locals, number(0))
		checkCode(t, c, api.ErrLong)
		b.Locals, b.Nodes = nil, append(b.Nodes, pass)
		checkCode(t, c, api.ErrLong)
		b.Stack, b.Nodes = 1, times(3, pass)
		b.Nodes[at] = node(api.Demand, 0, flips...)
		checkCode(t, c, api.OK)
		b.Nodes[at].Code = append(slices.Clone(flips), op(api.Not))
		checkCode(t, c, api.ErrLong)
	}
}

// badValues are values that may not be, each beside the ones that may.
func badValues() []api.Value {
	return []api.Value{
		{}, {Bits: 1}, {T: 4}, {T: 255, Bits: 1}, truth(2), truth(3), truth(1 << 63), truth(math.MaxUint64),
		bits(otherNaN), bits(0x7ff0000000000001), bits(0xfff8000000000000), bits(math.MaxUint64), bits(math.MaxInt64),
	}
}

// goodValues are values that may be, at their edges.
func goodValues() []api.Value {
	return []api.Value{
		number(0), number(-1), number(math.MaxInt64), number(math.MinInt64), number(int64(api.NaN) + 1), truth(0), truth(1),
		bits(0), bits(1 << 63), bits(api.NaN), bits(0x7ff << 52), bits(0xfff << 52), bits(1), bits(0x7fefffffffffffff),
	}
}

func TestValues(t *testing.T) {
	try := func(v api.Value, want api.Errno) {
		checkCode(t, spoiled(func(c *api.Code) { c.Shared = append(c.Shared, v) }), want)
		checkCode(t, spoiled(func(c *api.Code) { c.Bodies[1].Locals = []api.Value{number(0), v} }), want)
		c := one(1, node(api.Pass, 0), node(api.SetLocal, 1, lit(v)))
		c.Bodies[0].Locals = []api.Value{number(0), v}
		checkCode(t, c, want)
		if want != api.OK {
			c.Bodies[0].Locals[1] = number(0)
			checkCode(t, c, want)
		}
	}
	for _, v := range badValues() {
		try(v, api.ErrArg)
	}
	for _, v := range goodValues() {
		try(v, api.OK)
	}
}

func TestNumbersOutOfTheirBounds(t *testing.T) {
	for _, x := range []struct {
		low, high int // the least and the greatest that may be
		change    func(c *api.Code, n int)
	}{
		{2, 16, func(c *api.Code, n int) { c.Mutexes = n }},
		{3, 64, func(c *api.Code, n int) { c.Bodies[0].Stack = n }},
		{0, 64, func(c *api.Code, n int) { c.Bodies[1].Stack = n }},
		{0, 6, func(c *api.Code, n int) { c.Bodies[0].Nodes[5].Next = n }},
		{0, 6, func(c *api.Code, n int) { c.Bodies[0].Nodes[4].Next = n }},
		{0, 6, func(c *api.Code, n int) { c.Bodies[0].Nodes[4].Alt = n }},
		{0, 1, func(c *api.Code, n int) { c.Bodies[1].Nodes[0].Next = n }},
		{0, 0, func(c *api.Code, n int) { c.Bodies[0].Nodes[0].Alt = n }},
		{0, 0, func(c *api.Code, n int) { c.Bodies[0].Nodes[1].Alt = n }},
		{0, 0, func(c *api.Code, n int) { c.Bodies[0].Nodes[2].Alt = n }},
		{0, 0, func(c *api.Code, n int) { c.Bodies[0].Nodes[3].Alt = n }},
		{0, 0, func(c *api.Code, n int) { c.Bodies[0].Nodes[5].Alt = n }},
		{0, 0, func(c *api.Code, n int) { c.Bodies[1].Nodes[0].Alt = n }},
		{0, 1, func(c *api.Code, n int) { c.Bodies[0].Nodes[2].Arg = n }},
		{0, 1, func(c *api.Code, n int) { c.Bodies[0].Nodes[5].Arg = n }},
		{0, 0, func(c *api.Code, n int) { c.Bodies[0].Nodes[3].Arg = n }},
		{0, 0, func(c *api.Code, n int) { c.Bodies[0].Nodes[4].Arg = n }},
		{0, 0, func(c *api.Code, n int) { c.Bodies[1].Nodes[0].Arg = n }},
		{0, 0, func(c *api.Code, n int) { c.Bodies[0].Nodes[0].Code[2].Arg = n }}, // of a Lit
		{0, 0, func(c *api.Code, n int) { c.Bodies[0].Nodes[0].Code[3].Arg = n }}, // of an operator with two operands
		{0, 0, func(c *api.Code, n int) { c.Bodies[0].Nodes[1].Code[1].Arg = n }}, // with one
	} {
		for n := x.low; n <= x.high; n++ {
			checkCode(t, spoiled(func(c *api.Code) { x.change(c, n) }), api.OK)
		}
		for _, n := range []int{-1, x.high + 1, x.high + 2, 1 << 16, 1<<16 + x.high, 256 + x.high, 1<<32 + x.high, math.MaxInt, math.MinInt} {
			checkCode(t, spoiled(func(c *api.Code) { x.change(c, n) }), api.ErrArg)
		}
	}
}

// Arg of what names a variable: those that are there have types of their own.
func TestVariablesThatAreNotThere(t *testing.T) {
	for n := -2; n < 6; n++ {
		want := func(there int) api.Errno {
			if n < 0 || n >= there {
				return api.ErrArg
			}
			return api.OK
		}
		c := one(1, node(api.SetLocal, n, lit(number(1))))
		c.Bodies[0].Locals = times(3, number(0))
		checkCode(t, c, want(3))
		c.Bodies[0].Nodes[0] = node(api.SetLocal, 0, load(n))
		checkCode(t, c, want(3))
		c.Shared = times(4, number(0))
		c.Bodies[0].Nodes[0] = node(api.SetLocal, 0, fetch(n))
		checkCode(t, c, want(4))
		c.Bodies[0].Nodes[0] = node(api.SetShared, n, lit(number(1)))
		checkCode(t, c, want(4))
		// Locals are a body's own.
		c.Bodies = append(c.Bodies, api.Body{Stack: 1, Locals: times(2, number(0)), Nodes: []api.Node{node(api.SetShared, 0, load(n))}})
		c.Bodies[0].Nodes = nil
		checkCode(t, c, want(2))
		c.Mutexes, c.Bodies[1].Nodes = 3, []api.Node{node(api.Take, n)}
		checkCode(t, c, want(3))
		c.Bodies[1].Nodes = []api.Node{node(api.Give, n)}
		checkCode(t, c, want(3))
	}
}

func TestInstructionsThatAreNone(t *testing.T) {
	for o := range 256 {
		c := with(number(0), number(0), 4, node(api.SetLocal, 0, load(0), op(api.Op(o))))
		isOne := o == int(api.Lit) || o >= int(api.Or) && o <= int(api.ToReal) || o == int(api.Load) || o == int(api.Fetch)
		if got := code.Check(c); isOne == (got == api.ErrArg) && o != int(api.Lit) {
			t.Error(o, got)
		}
		// A Lit's value is in none but a Lit.
		for _, v := range []api.Value{number(0), number(1), truth(0), {Bits: 1}} {
			c.Bodies[0].Nodes[0].Code[1].Lit = v
			if got := code.Check(c); (got == api.ErrArg) != (o != int(api.Lit) || v.T == 0) {
				t.Error(o, v, got)
			}
		}
	}
	for _, kind := range []int{0, -1, 8, 9, 255, 256 + api.Pass, 1<<32 + api.Pass, math.MaxInt, math.MinInt} {
		checkCode(t, spoiled(func(c *api.Code) { c.Bodies[1].Nodes[0].Kind = kind }), api.ErrArg)
		checkCode(t, spoiled(func(c *api.Code) { c.Bodies[0].Nodes[3].Kind = kind }), api.ErrArg)
	}
}

// Each operator, at each type and each two types.
func TestOperands(t *testing.T) {
	firsts := []api.Value{number(1), truth(1), bits(0)}
	for o := api.Or; o <= api.ToReal; o++ {
		rules, fine := rewrites()[o], 0
		for _, a := range firsts {
			for _, b := range firsts {
				for _, result := range firsts {
					instrs := []api.Instr{lit(a), lit(b), op(o)}
					if o >= api.Neg {
						instrs = instrs[1:]
					}
					stack := letter(a) + letter(b)
					stack, ok := rewrite(stack[len(stack)-len(instrs)+1:], rules)
					want := api.ErrType
					if ok && stack == letter(result) {
						want = api.OK
						fine++
					}
					checkCode(t, with(number(0), result, 2, node(api.SetLocal, 0, instrs...)), want)
					checkCode(t, with(result, number(0), 2, node(api.SetShared, 0, instrs...)), want)
				}
			}
		}
		if fine == 0 {
			t.Error("never of a type:", o)
		}
		// too few
		for few := range 2 {
			if few == 0 || o < api.Neg {
				for _, v := range firsts {
					checkCode(t, with(number(0), v, 9, node(api.SetLocal, 0, append(times(few, lit(v)), op(o))...)), api.ErrType)
					checkCode(t, with(number(0), v, 9, node(api.SetLocal, 0, append(times(few, lit(v)), op(o), lit(v))...)), api.ErrType)
				}
			}
		}
	}
}

// The upper one is the second operand, and those below are left.
func TestTypesOnTheStack(t *testing.T) {
	is := func(want api.Errno, instrs ...api.Instr) {
		t.Helper()
		checkCode(t, with(truth(0), number(0), 64, node(api.Demand, 0, instrs...)), want)
	}
	one, half, yes := lit(number(1)), lit(bits(0x3fe<<52)), lit(truth(1))
	is(api.OK, one, one, op(api.Eq))
	is(api.OK, yes, one, load(0), op(api.Lt), op(api.And))
	is(api.ErrType, one, yes, one, op(api.Lt), op(api.And))
	is(api.OK, half, one, op(api.ToReal), op(api.Eq))
	is(api.ErrType, one, half, op(api.ToReal), op(api.Eq))
	is(api.OK, one, half, op(api.ToInt), op(api.Eq))
	is(api.OK, fetch(0), yes, yes, op(api.Or), op(api.Ne), op(api.Not))
	is(api.ErrType, fetch(0), one, op(api.Eq))
	is(api.ErrType, yes, yes)
	is(api.ErrType, one, yes)
	is(api.ErrType, yes, one, one, op(api.Eq))
	is(api.ErrType)
	is(api.ErrType, one)
	is(api.ErrType, half)
	is(api.ErrType, load(0))
	is(api.OK, fetch(0))
}

// What must stand there at the end of a node.
func TestWhatANodeLeaves(t *testing.T) {
	values := []api.Value{number(1), truth(1), bits(0)}
	for _, shared := range values {
		for _, local := range values {
			for kind := api.SetLocal; kind <= api.Pass; kind++ {
				want := map[int]api.Type{api.SetLocal: local.T, api.SetShared: shared.T, api.Demand: api.Bool, api.Branch: api.Bool}[kind]
				fits := func(is bool) api.Errno {
					if is {
						return api.OK
					}
					return api.ErrType
				}
				checkCode(t, with(shared, local, 5, node(kind, 0)), fits(want == 0))
				for _, v := range values {
					checkCode(t, with(shared, local, 5, node(kind, 0, lit(v))), fits(want == v.T))
					checkCode(t, with(shared, local, 5, node(kind, 0, lit(v), lit(v))), api.ErrType)
				}
				checkCode(t, with(shared, local, 5, node(kind, 0, load(0))), fits(want == local.T))
			}
		}
	}
}

func TestStackTooHigh(t *testing.T) {
	for high := 1; high <= 70; high++ {
		instrs := append(times(high, lit(number(1))), times(high-1, op(api.Add))...)
		for stack := 0; stack <= 64; stack++ {
			want := api.OK
			if high > stack {
				want = api.ErrType
			}
			c := with(number(0), number(0), stack, node(api.SetLocal, 0, instrs...))
			if got := code.Check(c); got != want {
				t.Errorf("%d on a stack of %d: %v", high, stack, got)
			}
		}
	}
	// Loads and Fetches need room as Lits do, and what an operator leaves does, too.
	checkCode(t, with(number(0), number(0), 1, node(api.SetLocal, 0, load(0), op(api.Neg), op(api.ToReal), op(api.ToInt))), api.OK)
	checkCode(t, with(number(0), number(0), 0, node(api.SetLocal, 0, load(0))), api.ErrType)
	checkCode(t, with(number(0), number(0), 0, node(api.SetLocal, 0, fetch(0))), api.ErrType)
	checkCode(t, with(number(0), number(0), 1, node(api.SetLocal, 0, load(0), load(0), op(api.Add))), api.ErrType)
	checkCode(t, with(number(0), number(0), 1, node(api.SetLocal, 0, load(0), fetch(0), op(api.Add))), api.ErrType)
	// Each body has its own, and each node begins with nothing there.
	c := with(number(0), number(0), 2, times(9, node(api.SetLocal, 0, load(0), load(0), op(api.Sub)))...)
	c.Bodies = append(c.Bodies, api.Body{Stack: 1, Locals: times(1, truth(0)), Nodes: times(3, node(api.SetLocal, 0, lit(truth(1))))})
	checkCode(t, c, api.OK)
	c.Bodies[1].Stack = 0
	checkCode(t, c, api.ErrType)
}

func TestTouchesTwo(t *testing.T) {
	try := func(want api.Errno, n api.Node) {
		t.Helper()
		c := with(number(0), number(0), 9, node(api.Pass, 0), n)
		c.Shared = append(c.Shared, number(0))
		checkCode(t, c, want)
		c.Bodies = append([]api.Body{{}, {}}, c.Bodies...)
		checkCode(t, c, want)
	}
	try(api.OK, node(api.SetLocal, 0, fetch(1)))
	try(api.OK, node(api.SetLocal, 0, fetch(1), load(0), op(api.Add), load(0), op(api.Mul)))
	try(code.ErrTouch, node(api.SetLocal, 0, fetch(1), fetch(0), op(api.Add)))
	try(code.ErrTouch, node(api.SetLocal, 0, fetch(1), fetch(1), op(api.Add)))
	try(code.ErrTouch, node(api.Demand, 0, fetch(1), fetch(1), op(api.Eq)))
	try(code.ErrTouch, node(api.Branch, 0, fetch(0), load(0), op(api.Add), fetch(1), op(api.Eq)))
	try(api.OK, node(api.Branch, 0, fetch(0), load(0), op(api.Eq)))
	try(api.OK, node(api.SetShared, 0, load(0)))
	try(code.ErrTouch, node(api.SetShared, 0, fetch(0)))
	try(code.ErrTouch, node(api.SetShared, 0, fetch(1)))
	try(code.ErrTouch, node(api.SetShared, 0, fetch(1), fetch(1), fetch(1), op(api.Add), op(api.Add)))
}

// All of the first kind ahead of all of the second one, wherever they stand.
func TestOrderOfKinds(t *testing.T) {
	kinds := []struct {
		err     api.Errno
		changes []func(c *api.Code)
	}{
		{api.ErrLong, []func(*api.Code){
			func(c *api.Code) { c.Shared = append(c.Shared, times(30, number(0))...) },
			func(c *api.Code) { c.Bodies = append(c.Bodies, make([]api.Body, 15)...) },
			func(c *api.Code) { c.Bodies[2].Locals = make([]api.Value, 17) },
			func(c *api.Code) { c.Bodies[2].Nodes = make([]api.Node, 1025) },
			func(c *api.Code) { c.Bodies[2].Nodes = []api.Node{{Code: make([]api.Instr, 8193)}} },
		}},
		{api.ErrArg, []func(*api.Code){
			func(c *api.Code) { c.Mutexes = 17 },
			func(c *api.Code) { c.Shared[0].T = 0 },
			func(c *api.Code) { c.Bodies[2].Stack = -1 },
			func(c *api.Code) { c.Bodies[1].Nodes[0].Next = 2 },
			func(c *api.Code) { c.Bodies[1].Nodes[0].Kind = 8 },
			func(c *api.Code) { c.Bodies[0].Nodes[5].Arg = 16 },
			func(c *api.Code) { c.Bodies[0].Nodes[4].Alt = 7 },
			func(c *api.Code) { c.Bodies[0].Nodes[4].Code[0].Lit.Bits = 2 },
		}},
		{api.ErrType, []func(*api.Code){
			func(c *api.Code) { c.Bodies[0].Nodes[3].Code = nil },
			func(c *api.Code) { c.Bodies[0].Nodes[5].Code = []api.Instr{lit(number(1))} },
			func(c *api.Code) { c.Bodies[0].Nodes[4].Code = []api.Instr{op(api.Not)} },
			func(c *api.Code) { c.Bodies[0].Stack = 2 },
		}},
		{code.ErrTouch, []func(*api.Code){
			func(c *api.Code) { c.Bodies[0].Nodes[1].Code = []api.Instr{fetch(2)} },
			func(c *api.Code) {
				c.Bodies[0].Nodes[0].Code = []api.Instr{fetch(0), fetch(0), lit(number(1)), op(api.Sub), op(api.Sub)}
			},
		}},
	}
	third := func(c *api.Code) { c.Bodies = append(c.Bodies, api.Body{}) }
	checkCode(t, spoiled(third), api.OK)
	for i, first := range kinds {
		for _, change := range first.changes {
			checkCode(t, spoiled(third, change), first.err)
			for _, behind := range kinds[i:] {
				for _, other := range behind.changes {
					checkCode(t, spoiled(third, other, change), first.err)
				}
			}
		}
	}
}

// P9.1: bytes

func TestBytesOneByOne(t *testing.T) {
	checkBytes(t, full(),
		3, 1, 255, 255, 255, 255, 255, 255, 255, 253, 2, 0, 0, 0, 0, 0, 0, 0, 1, 3, 0x7f, 0xf8, 0, 0, 0, 0, 0, 0,
		2, 2,
		2, 1, 0, 0, 0, 0, 0, 0, 0, 7, 3, 128, 0, 0, 0, 0, 0, 0, 0,
		3, 0, 6,
		0, 5, 30, 0, 31, 0, 1, 0, 1, 255, 255, 255, 255, 255, 255, 255, 255, 13, 0, 11, 0, 1, 0, 0, 1, 0, 0,
		0, 2, 30, 1, 16, 0, 2, 2, 0, 2, 0, 0,
		0, 0, 3, 1, 0, 3, 0, 0,
		0, 2, 31, 1, 17, 0, 5, 0, 0, 4, 0, 0,
		0, 1, 1, 0, 2, 0, 0, 0, 0, 0, 0, 0, 1, 6, 0, 0, 5, 0, 6,
		0, 0, 4, 0, 0, 6, 0, 0,
		0, 1, 0, 1,
		0, 0, 7, 0, 0, 1, 0, 0)
	// The highest byte comes first.
	c := one(64, times(1000, api.Node{Kind: api.Pass, Next: 0x123})...)
	c.Shared, c.Mutexes = []api.Value{number(0x0102030405060708)}, 16
	want := append([]byte{1, 1, 1, 2, 3, 4, 5, 6, 7, 8, 16, 1, 0, 64, 3, 232}, bytes.Repeat([]byte{0, 0, 7, 0, 1, 0x23, 0, 0}, 1000)...)
	checkBytes(t, c, want...)
	c = one(1, node(api.Branch, 0, append([]api.Instr{lit(truth(0))}, times(8191, op(api.Not))...)...))
	want = append([]byte{0, 0, 1, 0, 1, 0, 1, 32, 0, 1, 0, 2, 0, 0, 0, 0, 0, 0, 0, 0}, bytes.Repeat([]byte{17, 0}, 8191)...)
	checkBytes(t, c, append(want, 6, 0, 0, 0, 0, 0)...)
}

// The greatest numbers that there may be in each place.
func TestGreatestCode(t *testing.T) {
	nodes := times(1024, api.Node{Code: []api.Instr{load(15), fetch(31), op(api.Mul)}, Kind: api.SetLocal, Arg: 15, Next: 1024})
	nodes[1023] = api.Node{Code: []api.Instr{fetch(31), load(15), op(api.Ge)}, Kind: api.Branch, Next: 1023, Alt: 1024}
	nodes[0], nodes[1] = api.Node{Kind: api.Take, Arg: 15, Next: 256}, api.Node{Kind: api.Give, Arg: 15, Next: 255}
	nodes[2] = api.Node{Code: []api.Instr{load(0)}, Kind: api.SetShared, Arg: 31, Next: 3}
	c := api.Code{Shared: times(32, number(-1)), Mutexes: 16, Bodies: times(16, api.Body{Locals: times(16, number(1)), Stack: 64, Nodes: nodes})}
	checkCode(t, c, api.OK)
	checkBytes(t, c, secondBytes(c)...)
	if e, err := code.Touch(c, 15, 1023); e != (api.Event{Thread: 15, Kind: api.Reads, Object: 31}) || err != api.OK {
		t.Error(e, err)
	}
}

// P9.3: one byte less, or one more, is not read; nor are other bytes that no code has.
func TestBytesThatAreNotRead(t *testing.T) {
	b, _ := code.Bytes(full())
	for n := range b {
		checkNotRead(t, b[:n])
		checkNotRead(t, b[n+1:])
	}
	for extra := range 256 {
		checkNotRead(t, append(slices.Clone(b), byte(extra)))
		checkNotRead(t, []byte{0, 0, 1, 0, 0, 0, 0, byte(extra)})
	}
	for _, b := range [][]byte{
		{0}, {0, 0}, {0, 0, 0}, {0, 0, 1}, {0, 0, 1, 0, 0, 0}, {0, 17, 1, 0, 0, 0, 0}, {0, 0, 1, 0, 65, 0, 0}, {0, 0, 2, 0, 0, 0, 0},
		{0, 0, 1, 0, 0, 0, 1, 0, 0, 8, 0, 0, 0, 0, 0}, {0, 0, 1, 0, 0, 0, 1, 0, 0, 7, 0, 0, 2, 0, 0}, {0, 0, 1, 0, 0, 0, 1, 0, 0, 7, 0, 0, 0, 0, 1},
		{0, 0, 1, 0, 1, 0, 1, 0, 1, 1, 0, 1, 0, 0, 0, 0, 0, 0, 0, 1, 5, 0, 0, 0, 0, 0}, // ErrType
		{1, 4, 0, 0, 0, 0, 0, 0, 0, 0, 0, 1, 0, 0, 0, 0},
	} {
		checkNotRead(t, b)
	}
	for _, v := range badValues() {
		checkNotRead(t, secondBytes(api.Code{Shared: []api.Value{v}, Bodies: make([]api.Body, 1)}))
	}
	for _, c := range []api.Code{
		{Bodies: make([]api.Body, 17)}, {Shared: times(33, number(0)), Bodies: make([]api.Body, 1)},
		{Bodies: []api.Body{{Locals: times(17, number(0))}}}, one(0, times(1025, node(api.Pass, 0))...),
		one(1, node(api.Demand, 0, append([]api.Instr{lit(truth(0))}, times(8192, op(api.Not))...)...)),
		with(number(0), number(0), 1, node(api.SetShared, 0, fetch(0))),
	} {
		checkNotRead(t, secondBytes(c))
	}
}

// Each byte of the full code at each value: it is read just if it is a code's.
func TestEachByteChanged(t *testing.T) {
	b, _ := code.Bytes(full())
	read := 0
	for at := range b {
		for x := range 256 {
			c := slices.Clone(b)
			c[at] = byte(x)
			if checkRead(t, c) {
				read++
			}
		}
	}
	if read < 5000 {
		t.Error(read)
	}
}

// checkRead fails if bytes are read otherwise than by the second reader; it tells whether they are read.
func checkRead(t *testing.T, b []byte) bool {
	t.Helper()
	want, ok := secondRead(b)
	if !ok || secondCheck(want) != api.OK {
		checkNotRead(t, b)
		return false
	}
	checkBytes(t, want, b...)
	return true
}

// Numbers that say that more follows than there is, or than may be, take neither time nor memory.
func TestFalseNumbers(t *testing.T) {
	for _, n := range []int{1, 7, 1000, 1 << 22} {
		for _, x := range []byte{0, 1, 16, 32, 127, 128, 255} {
			checkNotRead(t, bytes.Repeat([]byte{x}, n))
			checkNotRead(t, append([]byte{0, 0, 16, 0, 0, 4, 0, 32, 0}, bytes.Repeat([]byte{x}, n)...))
			checkNotRead(t, append([]byte{0, 0, 16, 0, 0, 255, 255, 255, 255}, bytes.Repeat([]byte{x}, n)...))
		}
	}
	zeros := make([]byte, 1<<22)
	for _, ahead := range [][]byte{{255}, {0, 0, 255}, {0, 0, 16, 255}, {0, 0, 16, 0, 0, 255, 255}, {0, 0, 16, 0, 0, 4, 0, 255, 255}} {
		b := append(ahead, zeros...)
		var before, after runtime.MemStats
		runtime.ReadMemStats(&before)
		checkNotRead(t, b)
		runtime.ReadMemStats(&after)
		if n := after.TotalAlloc - before.TotalAlloc; n > 1<<18 {
			t.Errorf("%v and noughts: %d bytes", ahead, n)
		}
	}
}

// P9.2

// places tells the full code with one place changed, each time another one.
func places() []api.Code {
	var list []api.Code
	for _, change := range []func(c *api.Code){
		func(c *api.Code) { c.Shared[1].Bits = 0 },
		func(c *api.Code) { c.Shared[2].T = api.Int },
		func(c *api.Code) { c.Shared = c.Shared[:2] },
		func(c *api.Code) { c.Shared = nil },
		func(c *api.Code) { c.Mutexes = 3 },
		func(c *api.Code) { c.Bodies = c.Bodies[:1] },
		func(c *api.Code) { c.Bodies = append(c.Bodies, api.Body{}) },
		func(c *api.Code) { c.Bodies[0], c.Bodies[1] = c.Bodies[1], c.Bodies[0] },
		func(c *api.Code) { c.Bodies[0].Locals[0].Bits = 8 },
		func(c *api.Code) { c.Bodies[0].Locals[1].T = api.Int },
		func(c *api.Code) { c.Bodies[1].Locals = []api.Value{{}} },
		func(c *api.Code) { c.Bodies[1].Stack = 0 },
		func(c *api.Code) { c.Bodies[0].Nodes = c.Bodies[0].Nodes[:5] },
		func(c *api.Code) { c.Bodies[1].Nodes = append(c.Bodies[1].Nodes, api.Node{}) },
		func(c *api.Code) { c.Bodies[0].Nodes[2].Kind = api.Give },
		func(c *api.Code) { c.Bodies[0].Nodes[2].Arg = 0 },
		func(c *api.Code) { c.Bodies[0].Nodes[2].Next = 0 },
		func(c *api.Code) { c.Bodies[0].Nodes[4].Alt = 5 },
		func(c *api.Code) { c.Bodies[0].Nodes[5].Alt = 1 },
		func(c *api.Code) { c.Bodies[0].Nodes[2].Code = []api.Instr{{}} },
		func(c *api.Code) { c.Bodies[0].Nodes[4].Code = nil },
		func(c *api.Code) { c.Bodies[0].Nodes[0].Code[3].Op = api.Sub },
		func(c *api.Code) { c.Bodies[0].Nodes[0].Code[1].Arg = 1 },
		func(c *api.Code) { c.Bodies[0].Nodes[0].Code[2].Lit.Bits = 1 },
		func(c *api.Code) { c.Bodies[0].Nodes[0].Code[2].Lit.T = 0 },
		func(c *api.Code) { c.Bodies[0].Nodes[0].Code[4].Lit.T = api.Bool },
		func(c *api.Code) {
			n := c.Bodies[0].Nodes
			n[0].Code[0], n[0].Code[1] = n[0].Code[1], n[0].Code[0]
		},
	} {
		list = append(list, spoiled(change))
	}
	return append(list, full(), api.Code{}, one(0), one(-1), api.Code{Mutexes: math.MinInt})
}

func TestSame(t *testing.T) {
	list := places()
	for i, a := range list {
		for j, b := range list {
			if code.Same(a, b) != (i == j) {
				t.Errorf("Same of %d and %d: %v", i, j, i != j)
			}
			if code.Same(code.Copy(a), b) != (i == j) || code.Same(a, code.Copy(b)) != (i == j) {
				t.Errorf("Same of copies of %d and %d: %v", i, j, i != j)
			}
		}
	}
	// nil and empty are the same.
	empty := api.Code{Shared: []api.Value{}, Bodies: []api.Body{{Locals: []api.Value{}, Nodes: []api.Node{{Code: []api.Instr{}}}}, {Nodes: []api.Node{}}}}
	none := api.Code{Bodies: []api.Body{{Nodes: []api.Node{{}}}, {}}}
	if !code.Same(empty, none) || !code.Same(none, empty) || !code.Same(code.Copy(empty), none) {
		t.Error("nil and empty")
	}
	if !code.Same(api.Code{Bodies: []api.Body{}}, api.Code{}) {
		t.Error("no bodies")
	}
}

// A copy is told of any code, also of one that has more than may be.
func TestCopyOfTooMuch(t *testing.T) {
	c := api.Code{Shared: times(40, api.Value{T: 9, Bits: 9}), Mutexes: -5, Bodies: times(20, api.Body{
		Locals: times(30, api.Value{T: 200}), Stack: 1000, Nodes: times(1100, api.Node{Kind: -1, Arg: 1 << 40, Next: -7, Alt: math.MaxInt})})}
	c.Bodies[3].Nodes = []api.Node{{Code: times(9000, api.Instr{Op: 99, Arg: -1, Lit: truth(77)})}}
	got := code.Copy(c)
	if fmt.Sprint(got) != fmt.Sprint(c) || !code.Same(got, c) {
		t.Error("another code")
	}
	got.Bodies[3].Nodes[0].Code[8999].Lit.Bits++
	if code.Same(got, c) {
		t.Error("the same code")
	}
}

func TestTouch(t *testing.T) {
	c := full()
	for _, x := range []struct {
		body, node, kind, object int
	}{
		{0, 0, api.Reads, 0}, {0, 1, api.Writes, 2}, {0, 2, api.Locks, 1}, {0, 3, api.Reads, 1}, {0, 4, api.Local, 0}, {0, 5, api.Unlocks, 0}, {1, 0, api.Local, 0},
	} {
		if e, err := code.Touch(c, x.body, x.node); e != (api.Event{Thread: x.body, Kind: x.kind, Object: x.object}) || err != api.OK {
			t.Errorf("Touch(.., %d, %d) = %v, %v", x.body, x.node, e, err)
		}
	}
	far := []int{math.MinInt, -1, 0, 1, 2, 5, 6, 7, 16, 1024, 1 << 32, math.MaxInt}
	for _, body := range far {
		for _, at := range far {
			want, wantErr := secondTouch(c, body, at)
			if e, err := code.Touch(c, body, at); e != want || err != wantErr {
				t.Errorf("Touch(.., %d, %d) = %v, %v; not %v, %v", body, at, e, err, want, wantErr)
			}
		}
	}
	// Check's error is ahead of that of the numbers.
	for want, bad := range map[api.Errno]api.Code{
		api.ErrLong: {}, api.ErrArg: one(65), api.ErrType: one(0, node(api.Demand, 0)),
		code.ErrTouch: with(number(0), number(0), 1, node(api.SetShared, 0, fetch(0))),
	} {
		for _, at := range []int{-1, 0, 9} {
			if e, err := code.Touch(bad, at, at); e != (api.Event{}) || err != want {
				t.Errorf("Touch(.., %d, %d) = %v, %v; not %v", at, at, e, err, want)
			}
		}
	}
}
