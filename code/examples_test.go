package code_test

import (
	"bytes"
	"fmt"
	"testing"

	"assize/api"
	"assize/code"
)

// Short ways to write codes down.

func number(n int64) api.Value { return api.Value{T: api.Int, Bits: uint64(n)} }

func truth(b uint64) api.Value { return api.Value{T: api.Bool, Bits: b} }

func bits(b uint64) api.Value { return api.Value{T: api.Real, Bits: b} }

func lit(v api.Value) api.Instr { return api.Instr{Op: api.Lit, Lit: v} }

func load(i int) api.Instr { return api.Instr{Op: api.Load, Arg: i} }

func fetch(i int) api.Instr { return api.Instr{Op: api.Fetch, Arg: i} }

func op(o api.Op) api.Instr { return api.Instr{Op: o} }

// node tells a node that goes on at the first one.
func node(kind, arg int, instrs ...api.Instr) api.Node {
	return api.Node{Code: instrs, Kind: kind, Arg: arg}
}

// one tells a code of one body, with a stack of that height, without variables.
func one(stack int, nodes ...api.Node) api.Code {
	return api.Code{Bodies: []api.Body{{Stack: stack, Nodes: nodes}}}
}

// with tells a code of one body with a shared variable, a local and two mutexes.
func with(shared, local api.Value, stack int, nodes ...api.Node) api.Code {
	c := one(stack, nodes...)
	c.Shared, c.Mutexes, c.Bodies[0].Locals = []api.Value{shared}, 2, []api.Value{local}
	return c
}

// checkCode fails if Check answers otherwise, or Bytes and Touch do not answer Check's error.
func checkCode(t *testing.T, c api.Code, want api.Errno) {
	t.Helper()
	if got := code.Check(c); got != want {
		t.Errorf("Check(%.300s) = %v; not %v", fmt.Sprint(c), got, want)
	}
	b, err := code.Bytes(c)
	if err != want || (b == nil) != (want != api.OK) {
		t.Errorf("Bytes(%.300s) = %.40v, %v; not %v", fmt.Sprint(c), b, err, want)
	}
	if want == api.OK {
		want = api.ErrArg
	}
	if e, err := code.Touch(c, -1, 0); e != (api.Event{}) || err != want {
		t.Errorf("Touch(%.300s, -1, 0) = %v, %v; not %v", fmt.Sprint(c), e, err, want)
	}
}

// checkBytes fails if a code's bytes are others, or are not read as that code.
func checkBytes(t *testing.T, c api.Code, want ...byte) {
	t.Helper()
	if b, err := code.Bytes(c); !bytes.Equal(b, want) || err != api.OK {
		t.Errorf("Bytes(%.300s) = %v, %v; not %v", fmt.Sprint(c), b, err, want)
	}
	if r, err := code.Read(want); !code.Same(r, c) || err != api.OK {
		t.Errorf("Read(%.300s) = %v, %v; not %v", fmt.Sprint(want), r, err, c)
	}
}

// checkNotRead fails if bytes are read.
func checkNotRead(t *testing.T, b []byte) {
	t.Helper()
	if c, err := code.Read(b); err != api.ErrBytes || c.Shared != nil || c.Mutexes != 0 || c.Bodies != nil {
		t.Errorf("Read(%.300s) = %v, %v", fmt.Sprint(b), c, err)
	}
}

// The table of the chapter, line by line.
func TestExamples(t *testing.T) {
	checkCode(t, one(0), api.OK)
	checkBytes(t, one(0), 0, 0, 1, 0, 0, 0, 0)
	checkCode(t, api.Code{}, api.ErrLong)
	checkCode(t, one(65), api.ErrArg)
	checkCode(t, one(0, api.Node{Kind: api.Pass, Next: 1}), api.OK)
	checkCode(t, one(0, api.Node{Kind: api.Pass, Next: 2}), api.ErrArg)
	checkCode(t, one(1, node(api.Demand, 0, lit(number(1)))), api.ErrType)
	checkCode(t, with(number(0), number(0), 1, node(api.SetShared, 0, fetch(0))), code.ErrTouch)
	checkNotRead(t, nil)
	checkNotRead(t, []byte{})
	if c, err := code.Read([]byte{0, 0, 1, 0, 0, 0, 0}); !code.Same(c, one(0)) || err != api.OK {
		t.Error(c, err)
	}
	if code.ErrTouch != 190 {
		t.Error(code.ErrTouch)
	}
}
