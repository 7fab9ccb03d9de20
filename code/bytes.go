package code

import (
	"assize/api"
	"assize/octet"
)

// The sizes of numbers, in bytes.
const (
	oneByte    = 1
	twoBytes   = 2
	eightBytes = 8
)

// writer puts together the bytes of a code that may be.
type writer struct {
	text []byte
}

// small writes a number of one byte; there are so many of these that they are written without octet, which makes new memory for each.
func (w *writer) small(n int) { w.text = append(w.text, byte(n)) }

// number writes a number of more bytes. Those of a code that may be have room in theirs: octet refuses none.
func (w *writer) number(n uint64, size int) {
	b, _ := octet.Bytes(n, size)
	w.text = append(w.text, b...)
}

// big writes a number of two bytes.
func (w *writer) big(n int) { w.number(uint64(n), twoBytes) }

// code writes a code.
func (w *writer) code(c api.Code) {
	w.values(c.Shared)
	w.small(c.Mutexes)
	w.small(len(c.Bodies))
	for _, b := range c.Bodies {
		w.values(b.Locals)
		w.small(b.Stack)
		w.big(len(b.Nodes))
		for _, n := range b.Nodes {
			w.node(n)
		}
	}
}

// values writes how many values there are, and these.
func (w *writer) values(list []api.Value) {
	w.small(len(list))
	for _, v := range list {
		w.value(v)
	}
}

// value writes a value.
func (w *writer) value(v api.Value) {
	w.small(int(v.T))
	w.number(v.Bits, eightBytes)
}

// node writes a node.
func (w *writer) node(n api.Node) {
	w.big(len(n.Code))
	for _, i := range n.Code {
		w.small(int(i.Op))
		w.small(i.Arg)
		if i.Op == api.Lit {
			w.value(i.Lit)
		}
	}
	w.small(n.Kind)
	w.small(n.Arg)
	w.big(n.Next)
	w.big(n.Alt)
}

// reader reads a code's bytes from their front. From its first fault on it is bad, and reads noughts: so nobody needs to ask but in the end.
type reader struct {
	rest []byte
	bad  bool
}

// number reads a number of so many bytes.
func (r *reader) number(size int) uint64 {
	if r.bad || len(r.rest) < size {
		r.bad = true
		return 0
	}
	n, _ := octet.Number(r.rest[:size])
	r.rest = r.rest[size:]
	return n
}

// take reads a number of so many bytes, which are fewer than an int has.
func (r *reader) take(size int) int { return int(r.number(size)) }

// list reads how many there are, a number of so many bytes, and these. More than may be are not read, so that no more memory is taken than a code that may be needs.
func list[T any](r *reader, size, most int, one func(*reader) T) []T {
	count := r.take(size)
	if count > most {
		r.bad = true
	}
	if r.bad || count == 0 {
		return nil
	}
	l := make([]T, 0, count)
	for range count {
		l = append(l, one(r))
	}
	return l
}

// code reads a code. A literal's parts are read in the order in which they are called, which is that of the bytes.
func (r *reader) code() api.Code {
	return api.Code{
		Shared:  list(r, oneByte, api.MaxShared, (*reader).value),
		Mutexes: r.take(oneByte),
		Bodies:  list(r, oneByte, api.MaxThreads, (*reader).body),
	}
}

// body reads a body.
func (r *reader) body() api.Body {
	return api.Body{
		Locals: list(r, oneByte, api.MaxLocals, (*reader).value),
		Stack:  r.take(oneByte),
		Nodes:  list(r, twoBytes, api.MaxNodes, (*reader).node),
	}
}

// node reads a node.
func (r *reader) node() api.Node {
	return api.Node{
		Code: list(r, twoBytes, api.MaxInstrs, (*reader).instr),
		Kind: r.take(oneByte),
		Arg:  r.take(oneByte),
		Next: r.take(twoBytes),
		Alt:  r.take(twoBytes),
	}
}

// instr reads an instruction.
func (r *reader) instr() api.Instr {
	i := api.Instr{Op: api.Op(r.number(oneByte)), Arg: r.take(oneByte)}
	if i.Op == api.Lit {
		i.Lit = r.value()
	}
	return i
}

// value reads a value.
func (r *reader) value() api.Value {
	return api.Value{T: api.Type(r.number(oneByte)), Bits: r.number(eightBytes)}
}
