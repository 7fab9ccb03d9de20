package code_test

import (
	"bytes"
	"fmt"
	"math"
	"math/rand"
	"slices"
	"testing"
	"unsafe"

	"assize/api"
	"assize/code"
	"assize/sample"
)

// pick tells one of a list.
func pick[T any](r *rand.Rand, list ...T) T { return list[r.Intn(len(list))] }

// aNumber makes a number: mostly a small one.
func aNumber(r *rand.Rand) int {
	if r.Intn(5) == 0 {
		return pick(r, -1, math.MinInt, math.MaxInt, 1<<16, 256, 64, 65, 16, 17)
	}
	return r.Intn(8)
}

// aValue makes a value, often one that may be.
func aValue(r *rand.Rand) api.Value {
	if r.Intn(4) == 0 {
		return api.Value{T: api.Type(r.Intn(5)), Bits: pick[uint64](r, 0, 1, 2, otherNaN, math.MaxUint64)}
	}
	return sample.Value(r.Intn, sample.Type(r.Intn), true)
}

// anInstr makes an instruction of any kind.
func anInstr(r *rand.Rand) api.Instr {
	i := api.Instr{Op: pick(r, api.Op(r.Intn(34)), api.Lit, api.Load, api.Fetch)}
	if i.Op == api.Lit || r.Intn(9) == 0 {
		i.Lit = aValue(r)
	}
	if i.Op == api.Load || i.Op == api.Fetch || r.Intn(9) == 0 {
		i.Arg = aNumber(r)
	}
	return i
}

// spoil changes one thing of a code, which is its own copy; what is not there to be changed is left.
func spoil(r *rand.Rand, c *api.Code) {
	b := &c.Bodies[r.Intn(len(c.Bodies))]
	if len(b.Nodes) > 0 && r.Intn(3) > 0 {
		spoilNode(r, &b.Nodes[r.Intn(len(b.Nodes))])
		return
	}
	switch r.Intn(8) {
	case 0:
		c.Mutexes = aNumber(r)
	case 1:
		b.Stack = aNumber(r)
	case 2:
		c.Shared = append(c.Shared, times(1+r.Intn(2)*31, aValue(r))...)
	case 3:
		b.Locals = append(b.Locals, times(1+r.Intn(2)*15, aValue(r))...)
	case 4:
		c.Bodies = append(c.Bodies, code.Copy(api.Code{Bodies: times(1+r.Intn(2)*15, *b)}).Bodies...)
	case 5:
		b.Nodes = append(b.Nodes, api.Node{Kind: r.Intn(9)})
	case 6:
		c.Shared = c.Shared[:r.Intn(len(c.Shared)+1)]
	case 7:
		b.Nodes = b.Nodes[:r.Intn(len(b.Nodes)+1)]
	}
}

func spoilNode(r *rand.Rand, n *api.Node) {
	at := r.Intn(len(n.Code) + 1)
	for i, instr := range n.Code {
		// A second Fetch, of which the types say nothing.
		if instr.Op == api.Fetch && r.Intn(2) == 0 {
			n.Code = slices.Insert(n.Code, i, instr, instr, op(pick(r, api.Add, api.Or)))
			n.Code = slices.Delete(n.Code, i+3, i+4)
			return
		}
	}
	switch r.Intn(8) {
	case 0:
		n.Kind = pick(r, aNumber(r), 1+r.Intn(7))
	case 1:
		n.Arg = aNumber(r)
	case 2:
		n.Next = aNumber(r)
	case 3:
		n.Alt = aNumber(r)
	case 4:
		n.Code = slices.Insert(n.Code, at, anInstr(r))
	case 5:
		n.Code = n.Code[:at]
	default:
		if at < len(n.Code) {
			i := &n.Code[at]
			*i = pick(r, anInstr(r), api.Instr{Op: api.Op(r.Intn(22)), Arg: i.Arg, Lit: i.Lit}, api.Instr{Op: i.Op, Arg: aNumber(r), Lit: i.Lit})
		}
	}
}

// aCode makes a code, and spoils it a few times or not at all.
func aCode(r *rand.Rand) api.Code {
	c := sample.Code(r.Intn)
	for range r.Intn(3) {
		spoil(r, &c)
	}
	return c
}

func TestCodesAtRandom(t *testing.T) {
	r := rand.New(rand.NewSource(1))
	seen := map[api.Errno]int{}
	for range 40000 {
		c := aCode(r)
		want := secondCheck(c)
		checkCode(t, c, want)
		seen[want]++
		if want == api.OK {
			checkBytes(t, c, secondBytes(c)...)
			body := r.Intn(len(c.Bodies)+2) - 1
			at := r.Intn(8) - 1
			event, err := secondTouch(c, body, at)
			if got, gotErr := code.Touch(c, body, at); got != event || gotErr != err {
				t.Errorf("Touch(.., %d, %d) = %v, %v; not %v, %v", body, at, got, gotErr, event, err)
			}
		}
		if t.Failed() {
			t.Fatal(c)
		}
	}
	for _, err := range []api.Errno{api.OK, api.ErrLong, api.ErrArg, api.ErrType, code.ErrTouch} {
		if seen[err] < 200 {
			t.Errorf("too few of %v: %v", err, seen)
		}
	}
}

// Codes of instructions at random: the types on the stack are what the second checker says.
func TestInstructionsAtRandom(t *testing.T) {
	r := rand.New(rand.NewSource(2))
	seen := map[api.Errno]int{}
	for range 60000 {
		c := with(sample.Value(r.Intn, sample.Type(r.Intn), true), sample.Value(r.Intn, sample.Type(r.Intn), true), r.Intn(4), node(1+r.Intn(7), 0))
		n := &c.Bodies[0].Nodes[0]
		for range r.Intn(6) {
			i := pick(r, load(0), fetch(0), lit(sample.Value(r.Intn, sample.Type(r.Intn), true)), op(api.Or+api.Op(r.Intn(17))), op(api.Or+api.Op(r.Intn(17))))
			n.Code = append(n.Code, i)
		}
		want := secondCheck(c)
		checkCode(t, c, want)
		seen[want]++
		if t.Failed() {
			t.Fatal(c)
		}
	}
	for _, err := range []api.Errno{api.OK, api.ErrType, code.ErrTouch} {
		if seen[err] < 200 {
			t.Errorf("too few of %v: %v", err, seen)
		}
	}
}

// Bytes that are changed a little are read just if they are a code's.
func TestBytesAtRandom(t *testing.T) {
	r := rand.New(rand.NewSource(3))
	read := 0
	for range 30000 {
		b := secondBytes(sample.Code(r.Intn))
		for range 1 + r.Intn(2) {
			at := r.Intn(len(b))
			switch r.Intn(4) {
			case 0:
				b = slices.Insert(b, at, byte(r.Intn(9)))
			case 1:
				b = slices.Delete(b, at, at+1)
			default:
				b[at] = pick(r, byte(r.Intn(256)), byte(r.Intn(9)), b[at]+1, b[at]-1)
			}
			if len(b) == 0 {
				break
			}
		}
		if checkRead(t, b) {
			read++
		}
		if t.Failed() {
			t.Fatal(b)
		}
	}
	if read < 1000 {
		t.Error(read)
	}
}

// P9.3: each code has its own bytes.
func TestBytesTellCodesApart(t *testing.T) {
	r := rand.New(rand.NewSource(4))
	told := map[string]api.Code{}
	for range 20000 {
		c := aCode(r)
		b, err := code.Bytes(c)
		if err != api.OK {
			continue
		}
		if other, there := told[string(b)]; there && !code.Same(other, c) {
			t.Fatal(other, c)
		}
		told[string(b)] = c
	}
	if len(told) < 5000 {
		t.Error(len(told))
	}
	// Codes that are the same but for one place.
	list := places()
	for i, a := range list {
		for _, b := range list[:i] {
			x, errX := code.Bytes(a)
			y, errY := code.Bytes(b)
			if errX == api.OK && errY == api.OK && bytes.Equal(x, y) {
				t.Error(a, b)
			}
		}
	}
}

// Rules 3, 4 and 8: nothing that is handed in is changed, and what is told is told again.
func TestNothingIsChanged(t *testing.T) {
	r := rand.New(rand.NewSource(5))
	for range 2000 {
		c := aCode(r)
		kept := fmt.Sprint(c)
		check := code.Check(c)
		b, err := code.Bytes(c)
		event, touchErr := code.Touch(c, 0, 0)
		code.Same(c, c)
		code.Copy(c)
		keptBytes := slices.Clone(b)
		code.Read(b)
		if fmt.Sprint(c) != kept || !bytes.Equal(b, keptBytes) {
			t.Fatal(kept)
		}
		again, errAgain := code.Bytes(c)
		eventAgain, touchErrAgain := code.Touch(c, 0, 0)
		if code.Check(c) != check || !bytes.Equal(again, b) || errAgain != err || eventAgain != event || touchErrAgain != touchErr {
			t.Fatal(kept)
		}
	}
}

// memory calls f with where each list of a code begins, and how many bytes it has with its spare room.
func memory(c api.Code, f func(from, size uintptr)) {
	values := func(l []api.Value) {
		f(uintptr(unsafe.Pointer(unsafe.SliceData(l))), uintptr(cap(l))*unsafe.Sizeof(api.Value{}))
	}
	values(c.Shared)
	f(uintptr(unsafe.Pointer(unsafe.SliceData(c.Bodies))), uintptr(cap(c.Bodies))*unsafe.Sizeof(api.Body{}))
	for _, b := range c.Bodies {
		values(b.Locals)
		f(uintptr(unsafe.Pointer(unsafe.SliceData(b.Nodes))), uintptr(cap(b.Nodes))*unsafe.Sizeof(api.Node{}))
		for _, n := range b.Nodes {
			f(uintptr(unsafe.Pointer(unsafe.SliceData(n.Code))), uintptr(cap(n.Code))*unsafe.Sizeof(api.Instr{}))
		}
	}
}

// checkApart fails if two lists of some codes, or of one, share memory.
func checkApart(t *testing.T, codes ...api.Code) {
	t.Helper()
	type piece struct{ from, size uintptr }
	var list []piece
	for _, c := range codes {
		memory(c, func(from, size uintptr) {
			if size > 0 {
				list = append(list, piece{from, size})
			}
		})
	}
	for i, a := range list {
		for _, b := range list[:i] {
			if a.from < b.from+b.size && b.from < a.from+a.size {
				t.Error("memory is shared")
			}
		}
	}
}

// Rule 4: an answer is new memory, also where lists that are handed in share theirs.
func TestNewMemory(t *testing.T) {
	c := full()
	b, _ := code.Bytes(c)
	read, _ := code.Read(b)
	more, _ := code.Read(b)
	checkApart(t, c, code.Copy(c), code.Copy(c), read, more)
	nodes := times(3, node(api.SetLocal, 0, lit(number(1)), op(api.Neg)))
	shared := api.Code{Shared: times(2, number(0)), Bodies: times(3, api.Body{Locals: times(2, number(0)), Stack: 1, Nodes: nodes})}
	checkApart(t, code.Copy(shared), code.Copy(shared))
	// What is done to bytes behind a call is not seen in what was told.
	for i := range b {
		b[i] = 99
	}
	if !code.Same(read, full()) {
		t.Error(read)
	}
	first, _ := code.Bytes(c)
	other, _ := code.Bytes(c)
	for i := range first[:cap(first)] {
		first[:cap(first)][i] = 99
	}
	checkBytes(t, c, other...)
}

// roomy tells a code whose lists have spare room, which is filled.
func roomy(c api.Code) api.Code {
	c.Shared = append(slices.Clip(c.Shared), api.Value{T: 9})[:len(c.Shared)]
	c.Bodies = append(slices.Clip(c.Bodies), api.Body{Stack: 99})[:len(c.Bodies)]
	for i := range c.Bodies {
		b := &c.Bodies[i]
		b.Locals = append(slices.Clip(b.Locals), api.Value{T: 9})[:len(b.Locals)]
		b.Nodes = append(slices.Clip(b.Nodes), api.Node{Kind: 99})[:len(b.Nodes)]
		for j := range b.Nodes {
			n := &b.Nodes[j]
			n.Code = append(slices.Clip(n.Code), api.Instr{Op: 99})[:len(n.Code)]
		}
	}
	return c
}

// The room behind the end of a list is neither read, nor written, nor handed out.
func TestSpareRoom(t *testing.T) {
	c := roomy(full())
	checkCode(t, c, api.OK)
	b, _ := code.Bytes(full())
	checkBytes(t, c, b...)
	if !code.Same(c, full()) || !code.Same(full(), c) {
		t.Error("not the same")
	}
	own := code.Copy(c)
	if cap(own.Shared) != 3 || cap(own.Bodies) != 2 || cap(own.Bodies[0].Locals) != 2 || cap(own.Bodies[0].Nodes) != 6 || cap(own.Bodies[0].Nodes[0].Code) != 5 {
		t.Error("spare room is handed out")
	}
	body := c.Bodies[0]
	if c.Shared[:4][3].T != 9 || c.Bodies[:3][2].Stack != 99 || body.Locals[:3][2].T != 9 || body.Nodes[:7][6].Kind != 99 || body.Nodes[0].Code[:6][5].Op != 99 {
		t.Error("spare room was written")
	}
	long := append(slices.Clone(b), 7, 7, 7)
	if got, err := code.Read(long[:len(b)]); !code.Same(got, full()) || err != api.OK {
		t.Error(got, err)
	}
	checkNotRead(t, long[:len(b)-1])
	if !bytes.Equal(long, append(slices.Clone(b), 7, 7, 7)) {
		t.Error("spare room was written")
	}
}

func FuzzBytes(f *testing.F) {
	f.Add([]byte{0, 0, 1, 0, 0, 0, 0})
	f.Add(secondBytes(full()))
	r := rand.New(rand.NewSource(6))
	for range 20 {
		f.Add(secondBytes(sample.Code(r.Intn)))
	}
	f.Fuzz(func(t *testing.T, b []byte) { checkRead(t, b) })
}
