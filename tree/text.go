package tree

import (
	"math"
	"strconv"
	"strings"

	"assize/api"
	"assize/real"
)

// text is put together piece by piece. Of one that has more than most bytes the rest is left out, as it will be refused: so it takes no more memory than that, however great the tree is.
type text struct {
	strings.Builder
	most int
}

// put writes pieces one behind the other.
func (t *text) put(pieces ...string) {
	for _, s := range pieces {
		if t.Len() <= t.most {
			t.WriteString(s)
		}
	}
}

// program writes a program that may be printed.
func (t *text) program(p api.Program) {
	t.vars("shared ", p.Shared)
	for _, name := range p.Mutexes {
		t.put("mutex ", name, ";\n")
	}
	for _, thread := range p.Threads {
		t.put("thread ", thread.Name, " {\n")
		t.vars("  local ", thread.Locals)
		t.block(thread.Body, "  ")
		t.put("}\n")
	}
}

// vars writes variables, each behind the same words.
func (t *text) vars(words string, vars []api.Var) {
	for _, v := range vars {
		value, _ := valueText(v.First)
		t.put(words, v.Name, " ", typeText(v.First.T), " = ", value, ";\n")
	}
}

// block writes a block's statements, each line behind the same blanks.
func (t *text) block(block []api.Stmt, blanks string) {
	for _, s := range block {
		t.put(blanks)
		t.stmt(s, blanks)
		t.put("\n")
	}
}

// stmt writes a statement, all but the blanks ahead of it and the end of its last line.
func (t *text) stmt(s api.Stmt, blanks string) {
	switch s.Kind {
	case api.Assign:
		t.around(s.Name+" = ", s.E, ";")
	case api.Lock:
		t.put("lock ", s.Name, ";")
	case api.Unlock:
		t.put("unlock ", s.Name, ";")
	case api.Assert:
		t.around("assert ", s.E, ";")
	case api.If:
		t.around("if ", s.E, " {\n")
		t.block(s.Body, blanks+"  ")
		if len(s.Else) > 0 {
			t.put(blanks, "} else {\n")
			t.block(s.Else, blanks+"  ")
		}
		t.put(blanks, "}")
	case api.While:
		t.around("while ", s.E, " {\n")
		t.block(s.Body, blanks+"  ")
		t.put(blanks, "}")
	case api.Skip:
		t.put("skip;")
	}
}

// around writes an expression, with what stands ahead of it and behind it.
func (t *text) around(ahead string, e api.Expr, behind string) {
	t.put(ahead)
	t.expr(e)
	t.put(behind)
}

// expr writes an expression that may be printed.
func (t *text) expr(e api.Expr) {
	switch e.Op {
	case api.Lit:
		value, _ := valueText(e.Lit)
		t.put(value)
	case api.Name:
		t.put(e.Name)
	case api.Neg:
		t.around("-", e.Kids[0], "")
	case api.Not:
		t.around("!", e.Kids[0], "")
	case api.ToInt:
		t.around("int(", e.Kids[0], ")")
	case api.ToReal:
		t.around("real(", e.Kids[0], ")")
	default:
		t.around("(", e.Kids[0], " ")
		t.put(sign(e.Op))
		t.around(" ", e.Kids[1], ")")
	}
}

// sign tells the sign of an operator of two operands; none of another one.
func sign(op api.Op) string {
	switch op {
	case api.Or:
		return "||"
	case api.And:
		return "&&"
	case api.Eq:
		return "=="
	case api.Ne:
		return "!="
	case api.Lt:
		return "<"
	case api.Le:
		return "<="
	case api.Gt:
		return ">"
	case api.Ge:
		return ">="
	case api.Add:
		return "+"
	case api.Sub:
		return "-"
	case api.Mul:
		return "*"
	case api.Div:
		return "/"
	case api.Mod:
		return "%"
	}
	return ""
}

// typeText tells a type's text.
func typeText(t api.Type) string {
	switch t {
	case api.Int:
		return "int"
	case api.Bool:
		return "bool"
	}
	return "real"
}

// valueText tells a value's text, if it may be a variable's First.
func valueText(v api.Value) (string, bool) {
	switch v.T {
	case api.Int:
		n := int64(v.Bits)
		return strconv.FormatInt(n, 10), n > math.MinInt64
	case api.Bool:
		return strconv.FormatBool(v.Bits == 1), v.Bits <= 1
	case api.Real:
		// A real that has no literal, with or without its sign, is told by its bits.
		s := real.Text(v.Bits)
		return s, real.May(v.Bits) && !strings.HasPrefix(s, "#")
	}
	return "", false
}
