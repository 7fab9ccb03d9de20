package compile_test

import (
	"fmt"
	"strconv"
	"strings"
	"testing"

	"assize/api"
	"assize/code"
	"assize/compile"
	"assize/parse"
)

// Short ways to write values, programs and codes down.

func number(n int64) api.Value { return api.Value{T: api.Int, Bits: uint64(n)} }

func truth(b uint64) api.Value { return api.Value{T: api.Bool, Bits: b} }

func bits(b uint64) api.Value { return api.Value{T: api.Real, Bits: b} }

// program reads a program's text.
func program(t *testing.T, s string) api.Program {
	t.Helper()
	p, fault := parse.Parse(s)
	if fault.Err != api.OK {
		t.Fatalf("%.300q: %v", s, fault)
	}
	return p
}

// operators has the words for the operators, from Or on; kinds those for what a node does last, from SetLocal on.
const (
	operators = "or and eq ne lt le gt ge add sub mul div mod neg not toint toreal"
	kinds     = "setlocal setshared take give demand branch pass"
)

// indexOf tells the place of a word in a text of words; -1, if it is none of them.
func indexOf(words, word string) int {
	for i, w := range strings.Fields(words) {
		if w == word {
			return i
		}
	}
	return -1
}

// whole reads a number.
func whole(s string) int {
	n, err := strconv.Atoi(s)
	if err != nil {
		panic(err)
	}
	return n
}

// value reads a value: true, false, an Int, or a Real with a point.
func value(s string) api.Value {
	e, fault := parse.Expr(s)
	if fault.Err != api.OK || e.Op != api.Lit {
		panic(s)
	}
	return e.Lit
}

// instr reads an instruction: lit VALUE, load N, fetch N, or an operator.
func instr(s string) api.Instr {
	word, arg, _ := strings.Cut(s, " ")
	switch word {
	case "lit":
		return api.Instr{Op: api.Lit, Lit: value(arg)}
	case "load":
		return api.Instr{Op: api.Load, Arg: whole(arg)}
	case "fetch":
		return api.Instr{Op: api.Fetch, Arg: whole(arg)}
	}
	return api.Instr{Op: api.Or + api.Op(indexOf(operators, word))}
}

// nodes reads nodes, with a semicolon between: instructions, what is done last, each with a comma between, > and where it goes on.
func nodes(s string) []api.Node {
	var list []api.Node
	for _, text := range strings.Split(s, ";") {
		does, goes, _ := strings.Cut(text, ">")
		parts := strings.Split(strings.TrimSpace(does), ", ")
		last := strings.Fields(parts[len(parts)-1])
		n := api.Node{Kind: 1 + indexOf(kinds, last[0])}
		if len(last) > 1 {
			n.Arg = whole(last[1])
		}
		for _, part := range parts[:len(parts)-1] {
			n.Code = append(n.Code, instr(part))
		}
		roads := strings.Fields(goes)
		n.Next = whole(roads[0])
		if len(roads) > 1 {
			n.Alt = whole(roads[1])
		}
		list = append(list, n)
	}
	return list
}

// checkCompiled fails if a program's code is another one.
func checkCompiled(t *testing.T, p api.Program, want api.Code) {
	t.Helper()
	got, err := compile.Compile(p)
	if err != api.OK || !code.Same(got, want) {
		t.Errorf("Compile(%.300s) = %.2000s, %v; not %.2000s", fmt.Sprint(p), fmt.Sprint(got), err, fmt.Sprint(want))
	}
	if err := code.Check(got); err != api.OK {
		t.Errorf("Compile(%.300s): %v", fmt.Sprint(p), err)
	}
}

// checkNodes fails if the first thread of a text's program has other nodes, or another height of its stack.
func checkNodes(t *testing.T, text string, stack int, want string) {
	t.Helper()
	p := program(t, text)
	got, err := compile.Compile(p)
	if err != api.OK {
		t.Errorf("Compile(%.300q): %v", text, err)
		return
	}
	exp := code.Copy(got)
	exp.Bodies[0].Stack, exp.Bodies[0].Nodes = stack, nodes(want)
	checkCompiled(t, p, exp)
}

// checkRefused fails if a program has a code, or statements.
func checkRefused(t *testing.T, p api.Program) {
	t.Helper()
	if c, err := compile.Compile(p); err != api.ErrArg || c.Shared != nil || c.Mutexes != 0 || c.Bodies != nil {
		t.Errorf("Compile(%.300s) = %.300s, %v", fmt.Sprint(p), fmt.Sprint(c), err)
	}
	checkNoStatement(t, p, 0, 0)
}

// checkNoStatement fails if there is a statement of that number.
func checkNoStatement(t *testing.T, p api.Program, thread, node int) {
	t.Helper()
	s, err := compile.Statement(p, thread, node)
	if err != api.ErrArg || s.Kind != 0 || s.Name != "" || s.E.Op != 0 || s.E.Lit.T != 0 || s.E.Name != "" || s.E.Kids != nil || s.Body != nil || s.Else != nil {
		t.Errorf("Statement(%.300s, %d, %d) = %v, %v", fmt.Sprint(p), thread, node, s, err)
	}
}

// The table of the chapter, line by line.
func TestExamples(t *testing.T) {
	checkNodes(t, "thread t { skip; }", 0, "pass > 1")
	checkNodes(t, "thread t { while true { skip; } }", 1, "lit true, branch > 1 2; pass > 0")
	checkNodes(t, "thread t { if true { } else { skip; } skip; }", 1, "lit true, branch > 2 1; pass > 2; pass > 3")
	checkNodes(t, "shared x int; thread t { local i int; i = x + 1 * 2; }", 3, "fetch 0, lit 1, lit 2, mul, add, setlocal 0 > 1")
	checkRefused(t, program(t, "shared x int; thread t { x = x + 1; }"))
}
