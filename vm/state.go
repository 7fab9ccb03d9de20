package vm

import "assize/api"

// The sizes of numbers, in bytes.
const (
	oneByte    = 1
	twoBytes   = 2
	fourBytes  = 4
	eightBytes = 8
)

// writer puts together a machine's state as bytes.
type writer struct {
	text []byte
}

// number writes a number of so many bytes, the highest first.
func (w *writer) number(n uint64, size int) {
	for size > 0 {
		size--
		w.text = append(w.text, byte(n>>(8*size)))
	}
}

// count writes a number that is not below 0.
func (w *writer) count(n, size int) { w.number(uint64(n), size) }

// who writes a thread, or that it is none.
func (w *writer) who(t int) { w.count(t+1, oneByte) }

// values writes values, but not how many.
func (w *writer) values(list []api.Value) {
	for _, v := range list {
		w.number(uint64(v.T), oneByte)
		w.number(v.Bits, eightBytes)
	}
}

// machine writes a machine's state.
func (w *writer) machine(m *Machine) {
	w.values(m.shared)
	for _, t := range m.held {
		w.who(t)
	}
	for _, th := range m.threads {
		w.thread(th)
	}
	w.count(m.how, oneByte)
	w.who(m.who)
}

// thread writes a thread's part of it.
func (w *writer) thread(th thread) {
	w.values(th.locals)
	w.count(th.place, twoBytes)
	w.count(th.work, fourBytes)
	w.count(th.done, twoBytes)
	w.count(len(th.stack), oneByte)
	w.values(th.stack)
}
