package code_test

import (
	"bytes"
	"encoding/binary"
	"math"
	"strings"

	"assize/api"
	"assize/code"
)

// A second checker: it writes down which kinds of faults there are anywhere; types on a stack are letters of a text, which rules rewrite.

type second struct {
	c      api.Code
	faults map[api.Errno]int
}

func secondCheck(c api.Code) api.Errno {
	s := &second{c: c, faults: map[api.Errno]int{}}
	s.note(len(c.Bodies) < 1 || len(c.Bodies) > 16 || len(c.Shared) > 32, api.ErrLong)
	s.note(c.Mutexes < 0 || c.Mutexes > 16, api.ErrArg)
	s.values(c.Shared)
	for _, b := range c.Bodies {
		s.note(len(b.Locals) > 16 || len(b.Nodes) > 1024, api.ErrLong)
		s.note(b.Stack < 0 || b.Stack > 64, api.ErrArg)
		s.values(b.Locals)
		for _, n := range b.Nodes {
			s.node(b, n)
		}
	}
	for _, err := range []api.Errno{api.ErrLong, api.ErrArg, api.ErrType, code.ErrTouch} {
		if s.faults[err] > 0 {
			return err
		}
	}
	return api.OK
}

func (s *second) note(wrong bool, err api.Errno) {
	if wrong {
		s.faults[err]++
	}
}

func (s *second) values(list []api.Value) {
	for _, v := range list {
		s.note(!secondValue(v), api.ErrArg)
	}
}

func secondValue(v api.Value) bool {
	f := math.Float64frombits(v.Bits)
	return v.T == 1 || v.T == 2 && v.Bits>>1 == 0 || v.T == 3 && (f == f || v.Bits == 0x7ff8000000000000)
}

// letterAt tells the letter of a variable's type; one that no rule has, if there is no such variable or type.
func letterAt(list []api.Value, at int) string {
	if at < 0 || at >= len(list) {
		return "?"
	}
	return letter(list[at])
}

func letter(v api.Value) string {
	return (map[api.Type]string{1: "i", 2: "b", 3: "r"}[v.T] + "?")[:1]
}

// rewrites tells for each operator what it makes of what stands on the stack.
func rewrites() map[api.Op]string {
	return map[api.Op]string{
		api.Or: "bb>b", api.And: "bb>b", api.Not: "b>b",
		api.Eq: "ii>b bb>b rr>b", api.Ne: "ii>b bb>b rr>b",
		api.Lt: "ii>b rr>b", api.Le: "ii>b rr>b", api.Gt: "ii>b rr>b", api.Ge: "ii>b rr>b",
		api.Add: "ii>i rr>r", api.Sub: "ii>i rr>r", api.Mul: "ii>i rr>r", api.Div: "ii>i rr>r", api.Neg: "i>i r>r",
		api.Mod: "ii>i", api.ToInt: "r>i", api.ToReal: "i>r",
	}
}

// rewrite tells the stack behind an operator; false, if no rule fits.
func rewrite(stack, rules string) (string, bool) {
	for _, rule := range strings.Fields(rules) {
		from, to, _ := strings.Cut(rule, ">")
		if rest, ok := strings.CutSuffix(stack, from); ok {
			return rest + to, true
		}
	}
	return stack, false
}

func (s *second) node(b api.Body, n api.Node) {
	s.note(len(n.Code) > 8192, api.ErrLong)
	stack, touched, table := "", 0, rewrites()
	for _, i := range n.Code {
		put, most := "", 1 // how many Args there are
		switch i.Op {
		case api.Lit:
			put = letter(i.Lit)
			s.note(!secondValue(i.Lit), api.ErrArg)
			i.Lit = api.Value{}
		case api.Load:
			put, most = letterAt(b.Locals, i.Arg), len(b.Locals)
		case api.Fetch:
			put, most = letterAt(s.c.Shared, i.Arg), len(s.c.Shared)
			touched++
		default:
			s.note(table[i.Op] == "", api.ErrArg)
			rest, ok := rewrite(stack, table[i.Op])
			s.note(!ok, api.ErrType)
			stack = rest
		}
		s.note(i.Arg < 0 || i.Arg >= most || i.Lit.T != 0 || i.Lit.Bits != 0, api.ErrArg)
		stack += put
		s.note(len(stack) > b.Stack, api.ErrType)
	}
	if n.Kind == api.SetShared {
		touched++
	}
	s.note(touched > 1, code.ErrTouch)
	s.last(b, n, stack)
}

// last looks at what a node does last, with what is on its stack then.
func (s *second) last(b api.Body, n api.Node, stack string) {
	left := map[int]string{
		api.SetLocal: letterAt(b.Locals, n.Arg), api.SetShared: letterAt(s.c.Shared, n.Arg),
		api.Take: "", api.Give: "", api.Demand: "b", api.Branch: "b", api.Pass: "",
	}
	args := map[int]int{
		api.SetLocal: len(b.Locals), api.SetShared: len(s.c.Shared),
		api.Take: s.c.Mutexes, api.Give: s.c.Mutexes, api.Demand: 1, api.Branch: 1, api.Pass: 1,
	}
	want, there := left[n.Kind]
	s.note(!there, api.ErrArg)
	s.note(stack != want, api.ErrType)
	s.note(n.Arg < 0 || n.Arg >= args[n.Kind], api.ErrArg)
	s.note(n.Next < 0 || n.Next > len(b.Nodes), api.ErrArg)
	if n.Kind == api.Branch {
		s.note(n.Alt < 0 || n.Alt > len(b.Nodes), api.ErrArg)
	} else {
		s.note(n.Alt != 0, api.ErrArg)
	}
}

// secondBytes writes a code's bytes by the library's means.
func secondBytes(c api.Code) []byte {
	var w bytes.Buffer
	put := func(parts ...any) {
		for _, x := range parts {
			binary.Write(&w, binary.BigEndian, x)
		}
	}
	put(uint8(len(c.Shared)), c.Shared, uint8(c.Mutexes), uint8(len(c.Bodies)))
	for _, b := range c.Bodies {
		put(uint8(len(b.Locals)), b.Locals, uint8(b.Stack), uint16(len(b.Nodes)))
		for _, n := range b.Nodes {
			put(uint16(len(n.Code)))
			for _, i := range n.Code {
				put(i.Op, uint8(i.Arg))
				if i.Op == api.Lit {
					put(i.Lit)
				}
			}
			put(uint8(n.Kind), uint8(n.Arg), uint16(n.Next), uint16(n.Alt))
		}
	}
	return w.Bytes()
}

// secondRead reads bytes by the library's means; false, if they are too few or too many.
func secondRead(b []byte) (c api.Code, ok bool) {
	r := bytes.NewReader(b)
	defer func() {
		if recover() != nil {
			c, ok = api.Code{}, false
		}
	}()
	must := func(err error) {
		if err != nil {
			panic(err)
		}
	}
	one := func() int {
		x, err := r.ReadByte()
		must(err)
		return int(x)
	}
	two := func() int { return one()*256 + one() }
	value := func() (v api.Value) {
		must(binary.Read(r, binary.BigEndian, &v))
		return v
	}
	for range one() {
		c.Shared = append(c.Shared, value())
	}
	c.Mutexes = one()
	for range one() {
		var body api.Body
		for range one() {
			body.Locals = append(body.Locals, value())
		}
		body.Stack = one()
		for range two() {
			var n api.Node
			for range two() {
				i := api.Instr{Op: api.Op(one()), Arg: one()}
				if i.Op == api.Lit {
					i.Lit = value()
				}
				n.Code = append(n.Code, i)
			}
			n.Kind, n.Arg, n.Next, n.Alt = one(), one(), two(), two()
			body.Nodes = append(body.Nodes, n)
		}
		c.Bodies = append(c.Bodies, body)
	}
	return c, r.Len() == 0
}

// secondTouch tells what Touch should answer of a code that may be.
func secondTouch(c api.Code, body, at int) (api.Event, api.Errno) {
	if body < 0 || body >= len(c.Bodies) || at < 0 || at >= len(c.Bodies[body].Nodes) {
		return api.Event{}, api.ErrArg
	}
	n := c.Bodies[body].Nodes[at]
	e := api.Event{Thread: body}
	for _, i := range n.Code {
		if i.Op == api.Fetch {
			e.Kind, e.Object = api.Reads, i.Arg
		}
	}
	if kind := map[int]int{api.Take: api.Locks, api.Give: api.Unlocks, api.SetShared: api.Writes}[n.Kind]; kind != 0 {
		e.Kind, e.Object = kind, n.Arg
	}
	return e, api.OK
}
