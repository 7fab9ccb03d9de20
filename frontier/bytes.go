package frontier

import (
	"assize/api"
	"assize/octet"
)

// writer puts together the bytes of what may be written.
type writer struct {
	text []byte
}

// number writes a number, which is not below 0.
func (w *writer) number(n int) { w.text = append(w.text, octet.Short(uint64(n))...) }

// verdict writes a verdict.
func (w *writer) verdict(v api.Verdict) {
	w.number(v.Kind)
	if v.Kind != api.Fails {
		return
	}
	w.number(v.How)
	w.number(v.Who + 1)
	w.number(len(v.Schedule))
	for _, t := range v.Schedule {
		w.number(t)
	}
}

// frontier writes a frontier.
func (w *writer) frontier(f api.Frontier) {
	w.verdict(f.Verdict)
	w.number(f.Played)
	w.number(f.Charged)
	if f.Verdict.Kind != api.Open {
		return
	}
	w.number(len(f.Path))
	for level, t := range f.Path {
		w.number(t)
		w.number(f.Back[level])
		w.number(f.Asleep[level])
	}
	w.number(f.Done)
}

// numbers reads numbers from the front of bytes. From its first fault on it is bad, and reads noughts: so nobody needs to ask but in the end.
type numbers struct {
	rest []byte
	bad  bool
}

// number reads a number. One that is greater than any that may be written is a fault, so that each has room in an int.
func (n *numbers) number() int {
	if n.bad {
		return 0
	}
	x, size, err := octet.ReadShort(n.rest)
	if err != api.OK || x > mostCounted {
		n.bad = true
		return 0
	}
	n.rest = n.rest[size:]
	return int(x)
}

// count reads how many parts follow, each of so many bytes at least. More than there is room for are a fault, so that no memory is taken for what is not there.
func (n *numbers) count(least int) int {
	count := n.number()
	if count > api.MaxSteps || count > len(n.rest)/least {
		n.bad = true
		return 0
	}
	return count
}

// isOver tells whether all was read, without a fault.
func (n *numbers) isOver() bool { return !n.bad && len(n.rest) == 0 }

// verdictBytes are the bytes of a verdict, with what stands behind them.
type verdictBytes struct {
	*numbers
}

// read reads a verdict, whether it may be or not. A literal's parts are read in the order in which they are called, which is that of the bytes.
func (b verdictBytes) read() api.Verdict {
	v := api.Verdict{Kind: b.number()}
	if v.Kind == api.Fails {
		v = api.Verdict{Kind: v.Kind, How: b.number(), Who: b.number() - 1, Schedule: b.schedule()}
	}
	return v
}

// schedule reads how many steps there are, and these.
func (b verdictBytes) schedule() []int {
	var list []int
	for range b.count(1) {
		list = append(list, b.number())
	}
	return list
}

// frontierBytes are the bytes of a frontier: a verdict's are their beginning, and leave what comes behind to be read.
type frontierBytes struct {
	*numbers
}

// read reads a frontier, whether it may be or not.
func (b frontierBytes) read() api.Frontier {
	f := api.Frontier{Verdict: verdictBytes{b.numbers}.read(), Played: b.number(), Charged: b.number()}
	if f.Verdict.Kind != api.Open {
		return f
	}
	f.Path, f.Back, f.Asleep = b.levels()
	f.Done = b.number()
	return f
}

// levels reads how many levels there are, and of each the thread, and the threads that are to be tried there, and that sleep.
func (b frontierBytes) levels() (path, back, asleep []int) {
	for range b.count(3) {
		path = append(path, b.number())
		back = append(back, b.number())
		asleep = append(asleep, b.number())
	}
	return path, back, asleep
}
