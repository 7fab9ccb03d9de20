package check_test

import (
	"fmt"
	"math/rand"
	"slices"
	"strings"
	"testing"

	"assize/api"
	"assize/check"
	"assize/lex"
	"assize/parse"
	"assize/tree"
)

// maker makes programs at random, of few names, so that names often meet.
type maker struct {
	*rand.Rand
	p api.Program
	t api.Thread
}

// pick tells one of a list.
func pick[T any](m *maker, list ...T) T { return list[m.Intn(len(list))] }

// program makes a program that, but for names that met, mostly may be.
func (m *maker) program() api.Program {
	m.p = api.Program{}
	all := strings.Fields("a b c d e f g h k l n o")
	m.Shuffle(len(all), func(i, j int) { all[i], all[j] = all[j], all[i] })
	for _, s := range all[:m.Intn(4)] {
		m.p.Shared = append(m.p.Shared, m.variable(s))
	}
	m.p.Mutexes = all[4 : 4+m.Intn(3)]
	for _, s := range all[6 : 7+m.Intn(3)] {
		m.t = api.Thread{Name: s}
		for _, s := range all[7+m.Intn(5):] {
			m.t.Locals = append(m.t.Locals, m.variable(s))
		}
		m.t.Body = m.block(3)
		m.p.Threads = append(m.p.Threads, m.t)
	}
	return m.p
}

func (m *maker) variable(s string) api.Var { return api.Var{Name: s, First: m.value(m.aType())} }

func (m *maker) aType() api.Type { return pick(m, api.Int, api.Bool, api.Real) }

func (m *maker) value(t api.Type) api.Value {
	switch t {
	case api.Int:
		return number(int64(m.Intn(9)))
	case api.Bool:
		return truth(uint64(m.Intn(2)))
	}
	return bits(pick(m, api.NaN, 0, 0x3fe0000000000000))
}

func (m *maker) block(deep int) []api.Stmt {
	return times(m.Intn(4), func(int) api.Stmt { return m.stmt(deep) })
}

func (m *maker) stmt(deep int) api.Stmt {
	kind := 1 + m.Intn(7)
	s := api.Stmt{Kind: kind}
	vars := append(slices.Clone(m.p.Shared), m.t.Locals...)
	switch {
	case kind == api.Assign && len(vars) > 0:
		at := m.Intn(len(vars))
		s.Name = vars[at].Name
		s.E = m.expr(vars[at].First.T, 3, at >= len(m.p.Shared) || m.Intn(5) == 0)
	case (kind == api.Lock || kind == api.Unlock) && len(m.p.Mutexes) > 0:
		s.Name = pick(m, m.p.Mutexes...)
	case kind == api.Assert:
		s.E = m.expr(api.Bool, 3, true)
	case (kind == api.If || kind == api.While) && deep > 0:
		s.E = m.expr(api.Bool, 3, true)
		s.Body = m.block(deep - 1)
		if kind == api.If {
			s.Else = m.block(deep - 1)
		}
	default:
		return skip()
	}
	return s
}

// expr makes an expression of a type; it names one shared variable at most, but for a few, and none if shared is false.
func (m *maker) expr(t api.Type, high int, shared bool) api.Expr {
	if high == 0 || m.Intn(4) == 0 {
		return m.leaf(t, shared)
	}
	left := shared && m.Intn(2) == 0
	right := shared && (!left || m.Intn(5) == 0)
	from := t
	o := pick(m, api.Add, api.Sub, api.Mul, api.Div, api.Neg)
	switch {
	case t == api.Bool && m.Intn(2) == 0:
		o = pick(m, api.Or, api.And, api.Not, api.Eq, api.Ne)
	case t == api.Bool:
		from, o = pick(m, api.Int, api.Real), pick(m, api.Eq, api.Ne, api.Lt, api.Le, api.Gt, api.Ge)
	case m.Intn(4) > 0:
	case t == api.Int && m.Intn(2) == 0:
		o = api.Mod
	case t == api.Int:
		from, o = api.Real, api.ToInt
	default:
		from, o = api.Int, api.ToReal
	}
	if o >= api.Neg {
		return op(o, m.expr(from, high-1, shared))
	}
	return op(o, m.expr(from, high-1, left), m.expr(from, high-1, right))
}

// leaf makes a literal or a name of a type.
func (m *maker) leaf(t api.Type, shared bool) api.Expr {
	list := []api.Expr{lit(m.value(t))}
	vars := m.t.Locals
	if shared {
		vars = append(slices.Clone(m.p.Shared), vars...)
	}
	for _, v := range vars {
		if v.First.T == t {
			list = append(list, name(v.Name), name(v.Name))
		}
	}
	return pick(m, list...)
}

// aName makes a name, or sometimes none.
func (m *maker) aName() string {
	if m.Intn(9) == 0 {
		return pick(m, "", "if", "1", "a b")
	}
	return pick(m, strings.Fields("a b c d e f g h k l n o z")...)
}

// spoil changes one thing of a program, which is its own copy.
func (m *maker) spoil(p *api.Program) {
	t := &p.Threads[m.Intn(len(p.Threads))]
	var list []*api.Stmt
	gather(t.Body, &list)
	switch k := m.Intn(12); {
	case k == 0 && len(p.Shared) > 0:
		v := &p.Shared[m.Intn(len(p.Shared))]
		*v = pick(m, m.variable(m.aName()), api.Var{Name: v.Name, First: m.value(m.aType())}, api.Var{Name: v.Name})
	case k == 1 && len(p.Mutexes) > 0:
		p.Mutexes[m.Intn(len(p.Mutexes))] = m.aName()
	case k == 2:
		t.Name = m.aName()
	case k == 3 && len(t.Locals) > 0:
		v := &t.Locals[m.Intn(len(t.Locals))]
		*v = pick(m, m.variable(m.aName()), api.Var{Name: v.Name, First: m.value(m.aType())}, api.Var{Name: v.Name})
	case k == 4:
		p.Threads = append(p.Threads, *t)
	case len(list) > 0:
		m.spoilStmt(list[m.Intn(len(list))])
	}
}

func (m *maker) spoilStmt(s *api.Stmt) {
	switch m.Intn(8) {
	case 0:
		s.Name = m.aName()
	case 1:
		s.Kind = m.Intn(9)
	case 2:
		s.Body = m.block(1)
	case 3:
		s.Else = m.block(1)
	case 4:
		s.E = m.expr(m.aType(), 3, true)
	case 5:
		s.E = pick(m, api.Expr{}, op(api.Add, s.E), op(api.Eq, s.E, s.E), op(api.Neg, s.E), name(m.aName()))
	default:
		if parts := pointers(&s.E); len(parts) > 0 {
			e := pick(m, parts...)
			*e = pick(m, name(m.aName()), m.expr(m.aType(), 2, true), op(api.Op(m.Intn(22)), *e), op(api.Op(m.Intn(22)), *e, m.leaf(m.aType(), true)))
		}
	}
}

// gather tells all statements of a block and of the blocks in it.
func gather(block []api.Stmt, list *[]*api.Stmt) {
	for i := range block {
		*list = append(*list, &block[i])
		gather(block[i].Body, list)
		gather(block[i].Else, list)
	}
}

// pointers tells all parts of an expression.
func pointers(e *api.Expr) []*api.Expr {
	list := []*api.Expr{e}
	for i := range e.Kids {
		list = append(list, pointers(&e.Kids[i])...)
	}
	return list
}

// checkSecond fails if a program's spot is another one than the second checker's.
func checkSecond(t *testing.T, p api.Program) {
	t.Helper()
	checkTree(t, p, secondCheck(p))
}

func TestProgramsAtRandom(t *testing.T) {
	m := &maker{Rand: rand.New(rand.NewSource(7))}
	seen := map[api.Errno]int{}
	for range 12000 {
		p := tree.Copy(m.program())
		for range m.Intn(3) {
			m.spoil(&p)
			p = tree.Copy(p)
		}
		checkSecond(t, p)
		seen[check.Check(p).Err]++
		m.t = pick(m, p.Threads...)
		e, at := m.expr(m.aType(), 4, true), m.Intn(len(p.Threads)+2)-1
		if m.Intn(2) == 0 {
			s := assert(e)
			m.spoilStmt(&s)
			e = s.E
		}
		want, err := secondType(p, at, e)
		checkType(t, p, at, e, want, err)
		if t.Failed() {
			return
		}
	}
	for _, err := range []api.Errno{api.OK, api.ErrArg, api.ErrThere, api.ErrMissing, api.ErrType, check.ErrAtomic} {
		if seen[err] < 200 {
			t.Errorf("too few of %v: %v", err, seen)
		}
	}
}

// P7.3

// renamed tells a program in which a name is another one, wherever it stands.
func renamed(p api.Program, from, to string) api.Program {
	p = tree.Copy(p)
	swap := func(s *string) {
		if *s == from {
			*s = to
		}
	}
	for i := range p.Shared {
		swap(&p.Shared[i].Name)
	}
	for i := range p.Mutexes {
		swap(&p.Mutexes[i])
	}
	for i := range p.Threads {
		t := &p.Threads[i]
		swap(&t.Name)
		for j := range t.Locals {
			swap(&t.Locals[j].Name)
		}
		var list []*api.Stmt
		gather(t.Body, &list)
		for _, s := range list {
			swap(&s.Name)
			for _, e := range pointers(&s.E) {
				swap(&e.Name)
			}
		}
	}
	return p
}

func TestSpotsHangOnNoName(t *testing.T) {
	m := &maker{Rand: rand.New(rand.NewSource(8))}
	long := strings.Repeat("z", api.MaxName)
	for range 2000 {
		p := tree.Copy(m.program())
		for range m.Intn(3) {
			m.spoil(&p)
			p = tree.Copy(p)
		}
		var named []string
		for _, v := range p.Shared {
			named = append(named, v.Name)
		}
		named = append(named, p.Mutexes...)
		for _, th := range p.Threads {
			named = append(named, th.Name)
			for _, v := range th.Locals {
				named = append(named, v.Name)
			}
		}
		want := check.Check(p)
		for _, s := range named {
			if lex.Name(s) {
				checkTree(t, renamed(p, s, "q"), want)
				checkTree(t, renamed(p, s, long), want)
			}
		}
	}
}

// Rules 3, 4 and 8: nothing that is handed in is changed, and what is told is told again.
func TestNothingIsChanged(t *testing.T) {
	m := &maker{Rand: rand.New(rand.NewSource(9))}
	for range 500 {
		p := m.program()
		m.t = p.Threads[0]
		e := m.expr(m.aType(), 4, true)
		kept, keptExpr := tree.Copy(p), tree.Copy(one(assert(e)))
		spot := check.Check(p)
		kind, err := check.TypeOf(p, 0, e)
		checkTree(t, p, spot)
		checkType(t, p, 0, e, kind, err)
		if !tree.Same(p, kept) || !tree.Same(one(assert(e)), keptExpr) {
			t.Fatal(fmt.Sprint(kept))
		}
	}
}

// The room behind the end of a list is neither read nor written.
func TestSpareRoom(t *testing.T) {
	p := program(t, "shared x int; mutex m; thread t { local i int; if x == i { lock m; } else { i = -x; } } thread u { skip; }")
	crop := func(p api.Program) api.Program {
		p.Shared = append(p.Shared, api.Var{Name: "x"})[:1]
		p.Mutexes = append(p.Mutexes, "m")[:1]
		p.Threads = append(p.Threads, api.Thread{})[:2]
		th := &p.Threads[0]
		th.Locals = append(th.Locals, api.Var{})[:1]
		th.Body = append(th.Body, api.Stmt{})[:1]
		th.Body[0].Body = append(th.Body[0].Body, api.Stmt{})[:1]
		th.Body[0].Else = append(th.Body[0].Else, api.Stmt{})[:1]
		th.Body[0].E.Kids = append(th.Body[0].E.Kids, api.Expr{})[:2]
		return p
	}
	p = crop(p)
	checkTree(t, p, fine())
	checkType(t, p, 0, p.Threads[0].Body[0].E, api.Bool, api.OK)
	th := p.Threads[0]
	if p.Shared[:2][1].Name != "x" || p.Mutexes[:2][1] != "m" || th.Locals[:2][1] != (api.Var{}) || th.Body[:2][1].Kind != 0 || th.Body[0].E.Kids[:3][2].Op != 0 {
		t.Error("spare room was written")
	}
}

func FuzzPrograms(f *testing.F) {
	f.Add("shared x int = 1; mutex m; thread a { x = 7 / 2; lock m; } thread b { local i int; lock m; i = x; assert i == 1; }")
	f.Add("shared r real; thread t { local b bool; if b { while !b { r = 1.5; } } else { b = r < 0.0; } }")
	f.Add("mutex a; thread t { local i int; i = int(2.0) % 3; assert a == i; }")
	f.Fuzz(func(t *testing.T, text string) {
		p, fault := parse.Parse(text)
		if fault.Err != api.OK {
			return
		}
		checkSecond(t, p)
		for i, th := range p.Threads {
			for _, s := range th.Body {
				want, err := secondType(p, i, s.E)
				checkType(t, p, i, s.E, want, err)
			}
		}
	})
}
