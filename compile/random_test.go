package compile_test

import (
	"fmt"
	"math/rand"
	"slices"
	"testing"
	"unsafe"

	"assize/api"
	"assize/check"
	"assize/code"
	"assize/compile"
	"assize/parse"
	"assize/sample"
	"assize/sem"
	"assize/tree"
)

// gather tells all statements of a block and of the blocks in it, by their numbers.
func gather(block []api.Stmt, list *[]*api.Stmt) {
	for i := range block {
		*list = append(*list, &block[i])
		gather(block[i].Body, list)
		gather(block[i].Else, list)
	}
}

// exprs tells all parts of an expression.
func exprs(e *api.Expr) []*api.Expr {
	list := []*api.Expr{e}
	for i := range e.Kids {
		list = append(list, exprs(&e.Kids[i])...)
	}
	return list
}

// checkProgram fails if a program's code or one of its statements is another one than by the second compiler; it tells whether there is a code.
func checkProgram(t *testing.T, p api.Program) bool {
	t.Helper()
	if check.Check(p).Err != api.OK {
		checkRefused(t, p)
		return false
	}
	compiled(t, p)
	for i, th := range p.Threads {
		var list []*api.Stmt
		gather(th.Body, &list)
		for j, want := range list {
			if got, err := compile.Statement(p, i, j); !sameStmt(got, *want) || err != api.OK {
				t.Errorf("Statement(.., %d, %d) = %v, %v; not %v", i, j, got, err, *want)
			}
		}
		checkNoStatement(t, p, i, len(list))
		checkNoStatement(t, p, i, -1)
	}
	checkNoStatement(t, p, len(p.Threads), 0)
	return true
}

// spoil changes one thing of a program, which is its own copy; some are left as they may be.
func spoil(r *rand.Rand, p *api.Program) {
	th := &p.Threads[r.Intn(len(p.Threads))]
	var list []*api.Stmt
	gather(th.Body, &list)
	names := []string{"x0", "x1", "i0", "i1", "m0", "m1", "t0", "z", "", "if"}
	aName := names[r.Intn(len(names))]
	if len(list) == 0 {
		th.Name = aName
		return
	}
	s := list[r.Intn(len(list))]
	parts := exprs(&s.E)
	e := parts[r.Intn(len(parts))]
	switch r.Intn(9) {
	case 0:
		s.Name = aName
	case 1:
		s.Kind = r.Intn(9)
	case 2:
		s.Body, s.Else = s.Else, s.Body
	case 3:
		s.Body = append(s.Body, api.Stmt{Kind: api.Skip})
	case 4:
		*e = api.Expr{Op: api.Name, Name: aName}
	case 5:
		*e = sample.Expr(r.Intn, sample.Type(r.Intn), 3, th.Locals)
	case 6:
		e.Op = api.Op(r.Intn(21))
	case 7:
		slices.Reverse(e.Kids)
	case 8:
		th.Locals = append(th.Locals, api.Var{Name: aName, First: number(1)})
	}
}

func TestProgramsAtRandom(t *testing.T) {
	r := rand.New(rand.NewSource(1))
	fine, refused := 0, 0
	for range 12000 {
		p := sample.Program(r.Intn)
		for range r.Intn(3) {
			p = tree.Copy(p)
			spoil(r, &p)
		}
		if checkProgram(t, p) {
			fine++
		} else {
			refused++
		}
		if t.Failed() {
			t.Fatal(p)
		}
	}
	if fine < 4000 || refused < 2000 {
		t.Error(fine, refused)
	}
}

// P10.2 and P4: a program's code does what the program does.

// walker goes through a code, step by step, by what its nodes say.
type walker struct {
	c      api.Code
	shared []api.Value
	locals [][]api.Value
	held   []int
	at     []int
}

func newWalker(c api.Code) *walker {
	w := &walker{c: c, shared: slices.Clone(c.Shared), held: alikeInts(-1, c.Mutexes), at: make([]int, len(c.Bodies))}
	for _, b := range c.Bodies {
		w.locals = append(w.locals, slices.Clone(b.Locals))
	}
	return w
}

func alikeInts(n, count int) []int { return times(count, func(int) int { return n }) }

// value works a node's instructions out: what is left on the stack, how many were done, whether the last one was a trap.
func (w *walker) value(t *testing.T, th int, n api.Node) (stack []api.Value, count int, trap bool) {
	names := []string{"a", "b"}
	for i, x := range n.Code {
		switch x.Op {
		case api.Lit:
			stack = append(stack, x.Lit)
		case api.Load:
			stack = append(stack, w.locals[th][x.Arg])
		case api.Fetch:
			stack = append(stack, w.shared[x.Arg])
		default:
			operands := 2
			if x.Op >= api.Neg {
				operands = 1
			}
			from := len(stack) - operands
			e := api.Expr{Op: x.Op}
			for _, name := range names[:operands] {
				e.Kids = append(e.Kids, api.Expr{Op: api.Name, Name: name})
			}
			v, _, err := sem.Value(e, names[:operands], stack[from:])
			if err == api.ErrState {
				return nil, i + 1, true
			}
			if err != api.OK {
				t.Fatal(err, x, stack)
			}
			stack = append(stack[:from], v)
		}
		if len(stack) > w.c.Bodies[th].Stack {
			t.Fatal("the stack is too low", len(stack))
		}
	}
	return stack, len(n.Code), false
}

// step does a node: how many instructions, and how the run ends by it, if it does.
func (w *walker) step(t *testing.T, th int) (count, how int) {
	n := w.c.Bodies[th].Nodes[w.at[th]]
	stack, count, trap := w.value(t, th, n)
	if trap {
		return count, api.Trapped
	}
	count++
	next := n.Next
	switch n.Kind {
	case api.SetLocal:
		w.locals[th][n.Arg] = stack[0]
	case api.SetShared:
		w.shared[n.Arg] = stack[0]
	case api.Take:
		w.held[n.Arg] = th
	case api.Give:
		if w.held[n.Arg] != th {
			return count, api.Trapped
		}
		w.held[n.Arg] = -1
	case api.Demand:
		if stack[0].Bits == 0 {
			how = api.Failed
		}
	case api.Branch:
		if stack[0].Bits == 0 {
			next = n.Alt
		}
	}
	w.at[th] = next
	return count, how
}

// checkAlike fails if a walker does not stand as a run does; a node touches what its statement touches.
func checkAlike(t *testing.T, w *walker, r *sem.Run) {
	t.Helper()
	if !slices.Equal(w.shared, r.Shared()) || !slices.Equal(w.held, r.Held()) {
		t.Error(w.shared, r.Shared(), w.held, r.Held())
	}
	for th, b := range w.c.Bodies {
		if !slices.Equal(w.locals[th], r.Locals(th)) || r.Over(th) != (w.at[th] == len(b.Nodes)) {
			t.Error(th, w.locals[th], r.Locals(th), w.at[th], r.Over(th))
		}
		if r.Over(th) || t.Failed() {
			continue
		}
		want, err := r.Next(th)
		if got, touchErr := code.Touch(w.c, th, w.at[th]); got != want || err != api.OK || touchErr != api.OK {
			t.Error(th, got, want, err, touchErr)
		}
	}
}

// together plays a program and its code by one schedule to the end, and tells how they ended.
func together(t *testing.T, p api.Program, limit int, pick sample.Pick) int {
	t.Helper()
	r, err := sem.New(p, limit)
	c, compileErr := compile.Compile(p)
	if err != api.OK || compileErr != api.OK {
		t.Fatal(err, compileErr)
	}
	w := newWalker(c)
	for {
		checkAlike(t, w, r)
		how, _ := r.End()
		if how != api.Running || t.Failed() {
			return how
		}
		th := pick(len(p.Threads))
		if !r.Can(th) {
			continue
		}
		work := r.Work(th)
		r.Step(th)
		count, ends := w.step(t, th)
		how, who := r.End()
		if how == api.Overrun {
			if work+count <= limit || who != th {
				t.Error("overrun", work, count, limit)
			}
			return how
		}
		if r.Work(th) != work+count || ends != 0 && (how != ends || who != th) || ends == 0 && (how == api.Failed || how == api.Trapped) {
			t.Error(r.Work(th), work, count, how, who, ends)
		}
	}
}

func TestCodeDoesWhatTheProgramDoes(t *testing.T) {
	r := rand.New(rand.NewSource(2))
	seen := map[int]int{}
	for range 4000 {
		p := sample.Program(r.Intn)
		limit := 1 + r.Intn(100)
		seen[together(t, p, limit, r.Intn)]++
		if t.Failed() {
			t.Fatal(limit, p)
		}
	}
	for how := api.Done; how <= api.Overrun; how++ {
		if seen[how] < 50 {
			t.Error("too few of", how, seen)
		}
	}
}

// renamed tells a program with another name for each.
func renamed(p api.Program, anew func(old string) string) api.Program {
	p = tree.Copy(p)
	swap := func(s *string) {
		if *s != "" {
			*s = anew(*s)
		}
	}
	for i := range p.Shared {
		swap(&p.Shared[i].Name)
	}
	for i := range p.Mutexes {
		swap(&p.Mutexes[i])
	}
	for i := range p.Threads {
		th := &p.Threads[i]
		swap(&th.Name)
		for j := range th.Locals {
			swap(&th.Locals[j].Name)
		}
		var list []*api.Stmt
		gather(th.Body, &list)
		for _, s := range list {
			swap(&s.Name)
			for _, e := range exprs(&s.E) {
				swap(&e.Name)
			}
		}
	}
	return p
}

// P10.2: a code hangs on no name.
func TestCodesHangOnNoName(t *testing.T) {
	r := rand.New(rand.NewSource(3))
	for range 2000 {
		p := sample.Program(r.Intn)
		want, _ := compile.Compile(p)
		checkCompiled(t, renamed(p, func(old string) string { return "_" + old }), want)
		// Such that their order is another one.
		names := map[string]string{}
		other := renamed(p, func(old string) string {
			if names[old] == "" {
				names[old] = fmt.Sprintf("n%c%d", 'z'-rune(len(names)%26), len(names))
			}
			return names[old]
		})
		checkCompiled(t, other, want)
		if t.Failed() {
			t.Fatal(p)
		}
	}
}

// Rules 3, 4 and 8: nothing that is handed in is changed, and what is told is told again.
func TestNothingIsChanged(t *testing.T) {
	r := rand.New(rand.NewSource(4))
	for range 1000 {
		p := sample.Program(r.Intn)
		if r.Intn(2) == 0 {
			p = tree.Copy(p)
			spoil(r, &p)
		}
		kept := tree.Copy(p)
		c, err := compile.Compile(p)
		s, stmtErr := compile.Statement(p, 0, 0)
		again, againErr := compile.Compile(p)
		other, otherErr := compile.Statement(p, 0, 0)
		if !code.Same(c, again) || err != againErr || !sameStmt(s, other) || stmtErr != otherErr || !tree.Same(p, kept) {
			t.Fatal(kept)
		}
	}
}

// piece is some memory: where it begins, how many bytes it has.
type piece struct{ from, size uintptr }

// room tells a list's memory, with its spare room.
func room[T any](list []T) piece {
	var x T
	return piece{uintptr(unsafe.Pointer(unsafe.SliceData(list))), uintptr(cap(list)) * unsafe.Sizeof(x)}
}

// codeRooms tells the memory of all lists of a code.
func codeRooms(c api.Code) []piece {
	list := []piece{room(c.Shared), room(c.Bodies)}
	for _, b := range c.Bodies {
		list = append(list, room(b.Locals), room(b.Nodes))
		for _, n := range b.Nodes {
			list = append(list, room(n.Code))
		}
	}
	return list
}

// blockRooms tells the memory of all lists of a block.
func blockRooms(block []api.Stmt) []piece {
	list := []piece{room(block)}
	for i := range block {
		for _, e := range exprs(&block[i].E) {
			list = append(list, room(e.Kids))
		}
		list = append(list, blockRooms(block[i].Body)...)
		list = append(list, blockRooms(block[i].Else)...)
	}
	return list
}

// checkApart fails if two pieces of memory share any.
func checkApart(t *testing.T, list []piece) {
	t.Helper()
	list = slices.DeleteFunc(list, func(x piece) bool { return x.size == 0 })
	for i, a := range list {
		for _, b := range list[:i] {
			if a.from < b.from+b.size && b.from < a.from+a.size {
				t.Error("memory is shared")
			}
		}
	}
}

// Rule 4: an answer is new memory, also where lists that are handed in share theirs.
func TestNewMemory(t *testing.T) {
	p := program(t, "shared x int; shared y int; mutex m; thread t { local i int; if x == i { lock m; while i < 3 { i = -i; } } else { i = -y; } unlock m; } thread u { x = 1; }")
	c, _ := compile.Compile(p)
	again, _ := compile.Compile(p)
	s, _ := compile.Statement(p, 0, 0)
	other, _ := compile.Statement(p, 0, 0)
	list := append(codeRooms(c), codeRooms(again)...)
	list = append(list, room(p.Shared), room(p.Threads), room(p.Threads[0].Locals))
	list = append(list, blockRooms(p.Threads[0].Body)...)
	list = append(list, blockRooms([]api.Stmt{s})...)
	checkApart(t, append(list, blockRooms([]api.Stmt{other})...))

	block := times(2, func(int) api.Stmt { return api.Stmt{Kind: api.Assert, E: op(api.Or, yes(), yes())} })
	branch := api.Stmt{Kind: api.If, E: block[0].E, Body: block, Else: block}
	shared := one(branch, branch)
	shared.Threads = append(shared.Threads, api.Thread{Name: "u", Body: block})
	c, err := compile.Compile(shared)
	if want := secondCompile(tree.Copy(shared)); err != api.OK || !code.Same(c, want) {
		t.Error(c, err, want)
	}
	s, _ = compile.Statement(shared, 0, 5)
	if !sameStmt(s, branch) {
		t.Error(s)
	}
	list = append(codeRooms(c), blockRooms([]api.Stmt{s})...)
	checkApart(t, append(list, blockRooms(block)...))
}

// roomy tells a program whose lists have spare room, which is filled with what may not be.
func roomy(p api.Program) api.Program {
	p = tree.Copy(p)
	p.Shared = append(p.Shared, api.Var{})[:len(p.Shared)]
	p.Mutexes = append(p.Mutexes, "")[:len(p.Mutexes)]
	p.Threads = append(p.Threads, api.Thread{Name: "if"})[:len(p.Threads)]
	for i := range p.Threads {
		th := &p.Threads[i]
		th.Locals = append(th.Locals, api.Var{})[:len(th.Locals)]
		th.Body = roomyBlock(th.Body)
	}
	return p
}

func roomyBlock(block []api.Stmt) []api.Stmt {
	block = append(block, api.Stmt{Kind: 99})[:len(block)]
	for i := range block {
		s := &block[i]
		s.E, s.Body, s.Else = roomyExpr(s.E), roomyBlock(s.Body), roomyBlock(s.Else)
	}
	return block
}

func roomyExpr(e api.Expr) api.Expr {
	e.Kids = append(e.Kids, api.Expr{Op: 99})[:len(e.Kids)]
	for i, kid := range e.Kids {
		e.Kids[i] = roomyExpr(kid)
	}
	return e
}

// checkFilled fails if the spare room of a block of a roomy program was written.
func checkFilled(t *testing.T, block []api.Stmt) {
	t.Helper()
	if block[:len(block)+1][len(block)].Kind != 99 {
		t.Error("spare room was written")
	}
	for i := range block {
		checkFilled(t, block[i].Body)
		checkFilled(t, block[i].Else)
		for _, e := range exprs(&block[i].E) {
			if e.Kids[:len(e.Kids)+1][len(e.Kids)].Op != 99 {
				t.Error("spare room was written")
			}
		}
	}
}

// The room behind the end of a list is neither read, nor written, nor handed out.
func TestSpareRoom(t *testing.T) {
	r := rand.New(rand.NewSource(5))
	for range 1000 {
		p := sample.Program(r.Intn)
		filled := roomy(p)
		want, _ := compile.Compile(p)
		checkCompiled(t, filled, want)
		s, err := compile.Statement(filled, 0, 0)
		plain, _ := compile.Statement(p, 0, 0)
		if !sameStmt(s, plain) || cap(s.Body) != len(s.Body) || cap(s.Else) != len(s.Else) || cap(s.E.Kids) != len(s.E.Kids) {
			t.Error(s, err)
		}
		for _, th := range filled.Threads {
			checkFilled(t, th.Body)
		}
		if t.Failed() {
			t.Fatal(p)
		}
	}
}

// What is done to an answer is not seen in another one, nor in what was handed in.
func TestAnswersAreTheCallers(t *testing.T) {
	p := program(t, "shared x int; mutex m; thread t { local i int; if x == i { lock m; } else { i = -x; } } thread u { x = 1; }")
	kept := tree.Copy(p)
	want, _ := compile.Compile(p)
	c, _ := compile.Compile(p)
	c.Shared[0], c.Bodies[0].Locals[0], c.Bodies[0].Nodes[0].Code[0].Op, c.Bodies[0].Nodes[1].Kind = truth(1), truth(1), 99, 99
	s, _ := compile.Statement(p, 0, 0)
	s.Body[0].Name, s.Else[0].E.Kids[0].Name, s.E.Kids[1].Name = "z", "z", "z"
	if !tree.Same(p, kept) {
		t.Error(p)
	}
	checkCompiled(t, p, want)
}

// FuzzPrograms compiles texts' programs, and plays them beside their codes.
func FuzzPrograms(f *testing.F) {
	f.Add("shared x int = 1; mutex m; thread a { x = 7 / 2; lock m; } thread b { local i int; lock m; i = x; assert i == 1; }", []byte{1, 1, 0, 1})
	f.Add("shared x int; thread t { local i int; while i < 9 { i = i + 1; x = i / (i - 4); } } thread u { assert x < 3; }", []byte{0, 0, 1})
	f.Add("thread t { while true { if true { } else { while false { } skip; } if false { skip; } else { } } }", []byte{0})
	f.Fuzz(func(t *testing.T, text string, schedule []byte) {
		p, fault := parse.Parse(text)
		if fault.Err != api.OK || !checkProgram(t, p) {
			return
		}
		at := 0
		together(t, p, 1+len(text), func(n int) int {
			at++
			if at < len(schedule) {
				return int(schedule[at]) % n
			}
			return at % n
		})
	})
}
