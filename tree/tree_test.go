package tree_test

import (
	"fmt"
	"math"
	"math/rand"
	"reflect"
	"runtime"
	"slices"
	"strings"
	"testing"
	"unsafe"

	"assize/api"
	"assize/lex"
	"assize/real"
	"assize/tree"
)

// two and alone are the operators' texts, as the chapter has them.
func two() map[api.Op]string {
	return map[api.Op]string{api.Or: "||", api.And: "&&", api.Eq: "==", api.Ne: "!=", api.Lt: "<", api.Le: "<=", api.Gt: ">", api.Ge: ">=",
		api.Add: "+", api.Sub: "-", api.Mul: "*", api.Div: "/", api.Mod: "%"}
}

func alone() map[api.Op]string {
	return map[api.Op]string{api.Neg: "-%s", api.Not: "!%s", api.ToInt: "int(%s)", api.ToReal: "real(%s)"}
}

// notNames are texts that no name is.
func notNames() []string {
	return []string{"", "1", "1x", "x y", "x;", "x\n", "é", "if", "nan", "thread", strings.Repeat("a", 25)}
}

// What follows tells by other means than the program what must be answered: a tree is taken apart, and must be what is put together again of the parts that it may have.

// expectValue tells a value's text, if it may be a variable's First.
func expectValue(v api.Value) (string, bool) {
	switch v {
	case bits(api.NaN):
		return "nan", true
	case bits(math.Float64bits(math.Inf(1))):
		return "inf", true
	case bits(math.Float64bits(math.Inf(-1))):
		return "-inf", true
	case truth(0):
		return "false", true
	case truth(1):
		return "true", true
	case number(math.MinInt64):
		return "", false
	}
	if v.T == api.Int {
		return fmt.Sprint(int64(v.Bits)), true
	}
	if v.T != api.Real || math.IsNaN(math.Float64frombits(v.Bits)) {
		return "", false
	}
	s, err := real.Print(v.Bits << 1 >> 1)
	if v.Bits>>63 == 1 {
		s = "-" + s
	}
	return s, err == api.OK
}

// expectExpr tells an expression's text, if it may be printed, and is at most so high.
func expectExpr(e api.Expr, high int) (string, bool) {
	var kids []any
	for _, kid := range e.Kids {
		s, ok := expectExpr(kid, high-1)
		if !ok {
			return "", false
		}
		kids = append(kids, s)
	}
	bare := api.Expr{Op: e.Op}
	text, ok := "", false
	switch {
	case e.Op == api.Lit:
		bare.Lit = e.Lit
		text, ok = expectValue(e.Lit)
		ok = ok && text[0] != '-'
	case e.Op == api.Name:
		bare.Name = e.Name
		text, ok = e.Name, lex.Name(e.Name)
	case len(kids) == 1 && alone()[e.Op] != "":
		bare.Kids = e.Kids
		text, ok = fmt.Sprintf(alone()[e.Op], kids...), true
	case len(kids) == 2 && two()[e.Op] != "":
		bare.Kids = e.Kids
		text, ok = fmt.Sprintf("(%s %s %s)", kids[0], two()[e.Op], kids[1]), true
	}
	return text, ok && high > 0 && len(bare.Kids) == len(e.Kids) && bare.Lit == e.Lit && bare.Name == e.Name
}

// expectBlock tells a block's lines, if it may be printed.
func expectBlock(block []api.Stmt, deep int) ([]string, bool) {
	var lines []string
	for _, s := range block {
		more, ok := expectStmt(s, deep)
		if !ok || deep > 32 {
			return nil, false
		}
		lines = append(lines, more...)
	}
	return lines, true
}

// fits tells whether a statement of a kind may have these parts: a name, an expression, a Body, an Else.
func fits(kind int, has string) bool {
	may := map[int][]string{api.Assign: {"ne"}, api.Lock: {"n"}, api.Unlock: {"n"}, api.Assert: {"e"}, api.If: {"e", "eb", "eo", "ebo"}, api.While: {"e", "eb"}, api.Skip: {""}}
	return slices.Contains(may[kind], has)
}

// parts tells which parts a statement has.
func parts(s api.Stmt) string {
	has := ""
	for i, there := range []bool{s.Name != "", !reflect.DeepEqual(normal(s.E), api.Expr{}), len(s.Body) > 0, len(s.Else) > 0} {
		if there {
			has += "nebo"[i : i+1]
		}
	}
	return has
}

// expectStmt tells a statement's lines, if it may be printed.
func expectStmt(s api.Stmt, deep int) ([]string, bool) {
	e, okE := expectExpr(s.E, 32)
	body, okBody := expectBlock(s.Body, deep+1)
	other, okElse := expectBlock(s.Else, deep+1)
	has := parts(s)
	if !fits(s.Kind, has) || !okBody || !okElse ||
		strings.Contains(has, "n") && !lex.Name(s.Name) || strings.Contains(has, "e") && !okE {
		return nil, false
	}
	lines := []string{map[int]string{api.Assign: s.Name + " = " + e + ";", api.Lock: "lock " + s.Name + ";", api.Unlock: "unlock " + s.Name + ";",
		api.Assert: "assert " + e + ";", api.If: "if " + e + " {", api.While: "while " + e + " {", api.Skip: "skip;"}[s.Kind]}
	lines = append(lines, body...)
	if len(other) > 0 {
		lines = append(append(lines, "} else {"), other...)
	}
	if s.Kind == api.If || s.Kind == api.While {
		lines = append(lines, "}")
	}
	for i := range lines {
		lines[i] = "  " + lines[i]
	}
	return lines, true
}

// expectVars tells variables' lines, if they may be printed.
func expectVars(word string, vars []api.Var) ([]string, bool) {
	var lines []string
	for _, v := range vars {
		s, ok := expectValue(v.First)
		if !ok || !lex.Name(v.Name) {
			return nil, false
		}
		of := []string{"", "int", "bool", "real"}[v.First.T]
		lines = append(lines, word+" "+v.Name+" "+of+" = "+s+";")
	}
	return lines, true
}

// expectProgram tells what Print must answer.
func expectProgram(p api.Program) (string, api.Errno) {
	lines, fine := expectVars("shared", p.Shared)
	for _, m := range p.Mutexes {
		lines, fine = append(lines, "mutex "+m+";"), fine && lex.Name(m)
	}
	for _, x := range p.Threads {
		locals, okLocals := expectVars("  local", x.Locals)
		body, okBody := expectBlock(x.Body, 0)
		fine = fine && okLocals && okBody && lex.Name(x.Name)
		lines = slices.Concat(lines, []string{"thread " + x.Name + " {"}, locals, body, []string{"}"})
	}
	text := strings.Join(append(lines, ""), "\n")
	switch {
	case !fine:
		return "", api.ErrArg
	case len(text) > 16384:
		return "", api.ErrLong
	}
	return text, api.OK
}

// normal tells an expression with nil in the place of each empty list, so that DeepEqual takes these for the same.
func normal(e api.Expr) api.Expr {
	var kids []api.Expr
	for _, kid := range e.Kids {
		kids = append(kids, normal(kid))
	}
	e.Kids = kids
	return e
}

func normalBlock(block []api.Stmt) []api.Stmt {
	var all []api.Stmt
	for _, s := range block {
		s.E, s.Body, s.Else = normal(s.E), normalBlock(s.Body), normalBlock(s.Else)
		all = append(all, s)
	}
	return all
}

func normalProgram(p api.Program) api.Program {
	q := api.Program{Shared: append([]api.Var(nil), p.Shared...), Mutexes: append([]string(nil), p.Mutexes...)}
	for _, x := range p.Threads {
		q.Threads = append(q.Threads, api.Thread{Name: x.Name, Locals: append([]api.Var(nil), x.Locals...), Body: normalBlock(x.Body)})
	}
	return q
}

func equal(a, b api.Program) bool { return reflect.DeepEqual(normalProgram(a), normalProgram(b)) }

// choices are bytes by which a program is made; when they are spent all choices are the first one.
type choices struct{ left []byte }

func (c *choices) of(n int) int {
	if len(c.left) == 0 {
		return 0
	}
	b := c.left[0]
	c.left = c.left[1:]
	return int(b) % n
}

// some tells bytes for a program.
func some(r *rand.Rand, most int) *choices {
	b := make([]byte, r.Intn(most))
	r.Read(b)
	return &choices{b}
}

func (c *choices) name() string {
	return []string{"x", "y", "x1", "_", "aVeryLongNameOf24Bytes__"}[c.of(5)]
}

// values are values of all kinds, those that a variable may have first.
func values() []api.Value {
	l := []api.Value{number(0), number(7), number(-1), number(math.MaxInt64), number(math.MinInt64 + 1), truth(0), truth(1)}
	for _, x := range []float64{0, math.Copysign(0, -1), 0.5, -0.5, 0.1, -2.25, 100, 999999999.999999, math.Inf(1), math.Inf(-1)} {
		l = append(l, bits(math.Float64bits(x)))
	}
	return append(l, bits(api.NaN))
}

// oddValues are values that no variable may have.
func oddValues() []api.Value {
	l := []api.Value{{}, {Bits: 1}, {T: 4}, {T: 4, Bits: 1}, {T: 255}, number(math.MinInt64), truth(2), truth(3), truth(1 << 32), truth(1 << 63), truth(math.MaxUint64)}
	for _, b := range []uint64{api.NaN | 1, api.NaN | 1<<63, 0x7ff0000000000001, 0xfff0000000000001, math.MaxUint64, math.MaxUint64 >> 1, 1, 1<<63 | 1, 0x3fd3333333333334, 0xbfd3333333333334} {
		l = append(l, bits(b))
	}
	return append(l, bits(math.Float64bits(1e300)), bits(math.Float64bits(-1e15)), bits(math.Float64bits(0.0000005)))
}

func (c *choices) value() api.Value { return values()[c.of(len(values()))] }

func (c *choices) lit() api.Value {
	for {
		if v := c.value(); v.T == api.Bool || v.Bits>>63 == 0 {
			return v
		}
	}
}

func (c *choices) expr(high int) api.Expr {
	kind := c.of(6)
	switch {
	case high == 1 || kind < 2:
		if c.of(2) == 0 {
			return lit(c.lit())
		}
		return name(c.name())
	case kind == 2:
		return op(api.Neg+api.Op(c.of(4)), c.expr(high-1))
	}
	return op(api.Or+api.Op(c.of(13)), c.expr(high-1), c.expr(high-1))
}

func (c *choices) stmt(deep int) api.Stmt {
	s := api.Stmt{Kind: 7 - c.of(7)}
	if s.Kind == api.Assign || s.Kind == api.Lock || s.Kind == api.Unlock {
		s.Name = c.name()
	}
	if s.Kind != api.Lock && s.Kind != api.Unlock && s.Kind != api.Skip {
		s.E = c.expr(4)
	}
	if s.Kind == api.If || s.Kind == api.While {
		s.Body = c.block(deep + 1)
	}
	if s.Kind == api.If {
		s.Else = c.block(deep + 1)
	}
	return s
}

// block tells a block; one without statements is nil or empty.
func (c *choices) block(deep int) []api.Stmt {
	n := c.of(4)
	if n == 0 && c.of(2) == 0 || deep > 5 {
		return nil
	}
	block := []api.Stmt{}
	for range n {
		block = append(block, c.stmt(deep))
	}
	return block
}

func (c *choices) vars() []api.Var {
	var vars []api.Var
	for range c.of(3) {
		vars = append(vars, api.Var{Name: c.name(), First: c.value()})
	}
	return vars
}

// program tells a program that may be printed.
func (c *choices) program() api.Program {
	p := api.Program{Shared: c.vars()}
	for range c.of(3) {
		p.Mutexes = append(p.Mutexes, c.name())
	}
	for range c.of(4) {
		p.Threads = append(p.Threads, api.Thread{Name: c.name(), Locals: c.vars(), Body: c.block(0)})
	}
	return p
}

// A change of a program is one of one place in it.
type change func()

// exprChanges are the places of an expression, each with all that may be put there.
func exprChanges(e *api.Expr, c *choices) []change {
	l := []change{
		func() { e.Op = api.Op(c.of(34)) },
		func() { e.Lit = append(values(), oddValues()...)[c.of(len(values())+len(oddValues()))] },
		func() { e.Lit.Bits ^= 1 << c.of(64) },
		func() { e.Name = append(notNames(), "x", "y", "q")[c.of(len(notNames())+3)] },
		func() { e.Kids = append(e.Kids, c.expr(2)) },
	}
	if len(e.Kids) > 0 {
		l = append(l, func() { e.Kids = e.Kids[:len(e.Kids)-1] }, func() { slices.Reverse(e.Kids) })
	}
	for i := range e.Kids {
		l = append(l, exprChanges(&e.Kids[i], c)...)
	}
	return l
}

func blockChanges(block *[]api.Stmt, c *choices) []change {
	l := []change{func() { *block = append(*block, c.stmt(4)) }}
	if len(*block) > 0 {
		l = append(l, func() { *block = (*block)[1:] }, func() { slices.Reverse(*block) })
	}
	for i := range *block {
		s := &(*block)[i]
		l = append(l, func() { s.Kind = c.of(10) - 1 }, func() { s.Name = append(notNames(), "x", "y", "q")[c.of(len(notNames())+3)] }, func() { s.E = api.Expr{} })
		l = append(l, exprChanges(&s.E, c)...)
		l = append(l, blockChanges(&s.Body, c)...)
		l = append(l, blockChanges(&s.Else, c)...)
	}
	return l
}

func varChanges(vars *[]api.Var, c *choices) []change {
	l := []change{func() { *vars = append(*vars, api.Var{Name: c.name(), First: c.value()}) }}
	for i := range *vars {
		v := &(*vars)[i]
		l = append(l, func() { v.Name = append(notNames(), "x", "y", "q")[c.of(len(notNames())+3)] })
		l = append(l, func() { v.First = append(values(), oddValues()...)[c.of(len(values())+len(oddValues()))] })
		l = append(l, func() { v.First.T = api.Type(c.of(5)) }, func() { v.First.Bits ^= 1 << c.of(64) })
	}
	return l
}

func changes(p *api.Program, c *choices) []change {
	l := varChanges(&p.Shared, c)
	l = append(l, func() { p.Mutexes = append(p.Mutexes, append(notNames(), "x")[c.of(len(notNames())+1)]) })
	l = append(l, func() { p.Threads = append(p.Threads, api.Thread{Name: c.name()}) })
	for i := range p.Mutexes {
		l = append(l, func() { p.Mutexes[i] = append(notNames(), "x", "y", "q")[c.of(len(notNames())+3)] })
	}
	for i := range p.Threads {
		x := &p.Threads[i]
		l = append(l, func() { x.Name = append(notNames(), "x", "y", "q")[c.of(len(notNames())+3)] })
		l = append(l, varChanges(&x.Locals, c)...)
		l = append(l, blockChanges(&x.Body, c)...)
	}
	return l
}

// P5.1

func TestValues(t *testing.T) {
	for _, v := range append(values(), oddValues()...) {
		want, ok := expectValue(v)
		if !ok {
			checkValue(t, v, "", api.ErrArg)
			continue
		}
		checkValue(t, v, want, api.OK)
	}
	for _, v := range values() {
		if _, err := tree.Value(v); err != api.OK {
			t.Error(v, err)
		}
	}
	for _, v := range oddValues() {
		checkValue(t, v, "", api.ErrArg)
	}
	for _, x := range []struct {
		v    api.Value
		want string
	}{
		{number(0), "0"}, {number(-1), "-1"}, {number(math.MaxInt64), "9223372036854775807"}, {number(math.MinInt64 + 1), "-9223372036854775807"},
		{truth(0), "false"}, {truth(1), "true"}, {bits(0), "0.0"}, {bits(1 << 63), "-0.0"}, {bits(0x7ff0000000000000), "inf"}, {bits(0xfff0000000000000), "-inf"}, {bits(0x7ff8000000000000), "nan"},
		{bits(math.Float64bits(-2.25)), "-2.25"}, {bits(math.Float64bits(0.1)), "0.1"}, {bits(math.Float64bits(1e13)), "10000000000000.0"},
	} {
		checkValue(t, x.v, x.want, api.OK)
	}
}

func TestValuesOfAnyBits(t *testing.T) {
	r := rand.New(rand.NewSource(5))
	for range 100000 {
		v := api.Value{T: api.Type(r.Intn(5)), Bits: r.Uint64()}
		if r.Intn(2) == 0 {
			v.Bits = math.Float64bits(float64(r.Intn(1<<20)-1<<19) / math.Pow10(r.Intn(8)))
		}
		want, ok := expectValue(v)
		if s, err := tree.Value(v); ok && (s != want || err != api.OK) || !ok && (s != "" || err != api.ErrArg) {
			t.Fatal(v, s, err, want, ok)
		}
	}
}

func TestLiterals(t *testing.T) {
	for _, v := range append(values(), oddValues()...) {
		want, ok := expectValue(v)
		if !ok || strings.HasPrefix(want, "-") {
			checkExpr(t, lit(v), "", api.ErrArg)
			checkExpr(t, op(api.Neg, lit(v)), "", api.ErrArg)
			continue
		}
		checkExpr(t, lit(v), want, api.OK)
		checkExpr(t, op(api.Neg, lit(v)), "-"+want, api.OK)
	}
	for _, v := range []api.Value{number(-1), number(math.MinInt64), bits(1 << 63), bits(0xfff0000000000000), bits(math.Float64bits(-0.5))} {
		checkExpr(t, lit(v), "", api.ErrArg)
	}
}

func TestEachOperator(t *testing.T) {
	x, y := name("x"), lit(truth(1))
	for o := range 256 {
		o := api.Op(o)
		wants := []string{"", "", "", ""}
		if sign := two()[o]; sign != "" {
			wants[2] = "(x " + sign + " true)"
		}
		if form := alone()[o]; form != "" {
			wants[1] = fmt.Sprintf(form, "x")
		}
		for n, kids := range [][]api.Expr{{}, {x}, {x, y}, {x, y, x}} {
			want := api.ErrArg
			if wants[n] != "" {
				want = api.OK
			}
			checkExpr(t, op(o, kids...), wants[n], want)
			checkPrint(t, one(api.Stmt{Kind: api.Assert, E: op(o, kids...)}), map[bool]string{true: "thread t {\n  assert " + wants[n] + ";\n}\n"}[want == api.OK], want)
		}
	}
}

func TestSignsStandOneInAnother(t *testing.T) {
	a, b := name("a"), name("b")
	for _, x := range []struct {
		e    api.Expr
		want string
	}{
		{op(api.Neg, op(api.Neg, a)), "--a"},
		{op(api.Not, op(api.Not, op(api.Neg, a))), "!!-a"},
		{op(api.Neg, op(api.Sub, a, op(api.Neg, b))), "-(a - -b)"},
		{op(api.ToInt, op(api.ToReal, op(api.Div, a, b))), "int(real((a / b)))"},
		{op(api.Sub, op(api.Sub, a, b), a), "((a - b) - a)"},
		{op(api.Sub, a, op(api.Sub, b, a)), "(a - (b - a))"},
		{op(api.And, op(api.Not, op(api.ToInt, a)), op(api.Or, b, b)), "(!int(a) && (b || b))"},
		{op(api.Neg, lit(number(1))), "-1"},
	} {
		checkExpr(t, x.e, x.want, api.OK)
	}
}

func TestWhatAnExpressionDoesNotNameIsEmpty(t *testing.T) {
	x := name("x")
	for _, fine := range []api.Expr{lit(number(1)), x, op(api.Neg, x), op(api.ToInt, x), op(api.Add, x, x), op(api.Or, x, lit(truth(0)))} {
		want, _ := expectExpr(fine, 32)
		checkExpr(t, fine, want, api.OK)
		empty := fine
		empty.Kids = append([]api.Expr{}, fine.Kids...)
		checkExpr(t, empty, want, api.OK)
		for _, put := range []func(e *api.Expr){
			func(e *api.Expr) { e.Name += "y" },
			func(e *api.Expr) { e.Lit.T++ },
			func(e *api.Expr) { e.Lit.Bits += 1 << 63 },
			func(e *api.Expr) { e.Kids = append(e.Kids, x) },
			func(e *api.Expr) { e.Kids = append([]api.Expr{{}}, e.Kids...) },
			func(e *api.Expr) { e.Op = 0 },
		} {
			e := fine
			put(&e)
			if e.Op == api.Name && e.Name == "xy" || e.Op == api.Lit && e.Lit.T == api.Bool {
				continue
			}
			for _, whole := range []api.Expr{e, op(api.Not, e), op(api.Mul, e, x), op(api.Mul, x, e), op(api.Mod, op(api.Eq, x, op(api.ToReal, e)), x)} {
				checkExpr(t, whole, "", api.ErrArg)
			}
		}
	}
	checkExpr(t, api.Expr{}, "", api.ErrArg)
	for _, s := range notNames() {
		checkExpr(t, name(s), "", api.ErrArg)
		checkExpr(t, op(api.Eq, x, name(s)), "", api.ErrArg)
	}
}

// tower tells an expression that is so high, and its text: by one operator all along, by the left or by the right.
func tower(o api.Op, high int, left bool) (api.Expr, string) {
	e, s := name("x"), "x"
	for range high - 1 {
		switch {
		case two()[o] == "":
			e, s = op(o, e), fmt.Sprintf(alone()[o], s)
		case left:
			e, s = op(o, e, name("y")), "("+s+" "+two()[o]+" y)"
		default:
			e, s = op(o, name("y"), e), "(y "+two()[o]+" "+s+")"
		}
	}
	return e, s
}

func TestHeightOfWhatIsPrinted(t *testing.T) {
	for o := api.Or; o <= api.ToReal; o++ {
		for _, left := range []bool{true, false} {
			for _, high := range []int{1, 2, 31, 32} {
				e, s := tower(o, high, left)
				checkExpr(t, e, s, api.OK)
				checkPrint(t, one(api.Stmt{Kind: api.Assign, Name: "x", E: e}), "thread t {\n  x = "+s+";\n}\n", api.OK)
				checkPrint(t, one(api.Stmt{Kind: api.Assert, E: e}), "thread t {\n  assert "+s+";\n}\n", api.OK)
				checkPrint(t, one(api.Stmt{Kind: api.If, E: e}), "thread t {\n  if "+s+" {\n  }\n}\n", api.OK)
				checkPrint(t, one(api.Stmt{Kind: api.While, E: e}), "thread t {\n  while "+s+" {\n  }\n}\n", api.OK)
			}
			for _, high := range []int{33, 34, 1000} {
				e, _ := tower(o, high, left)
				checkExpr(t, e, "", api.ErrArg)
				checkPrint(t, one(api.Stmt{Kind: api.Assign, Name: "x", E: e}), "", api.ErrArg)
				for _, kind := range []int{api.Assert, api.If, api.While} {
					checkPrint(t, one(api.Stmt{Kind: kind, E: e}), "", api.ErrArg)
				}
			}
		}
	}
	fine, _ := tower(api.Add, 31, true)
	high, _ := tower(api.Neg, 32, true)
	checkExpr(t, op(api.Mul, fine, high), "", api.ErrArg)
	checkExpr(t, op(api.Mul, high, fine), "", api.ErrArg)
}

// An expression's text has no bound of its own.
func TestLongExpressions(t *testing.T) {
	e, s := name("aVeryLongNameOf24Bytes__"), "aVeryLongNameOf24Bytes__"
	for range 12 {
		e, s = op(api.Add, e, e), "("+s+" + "+s+")"
	}
	checkExpr(t, e, s, api.OK)
	checkPrint(t, one(api.Stmt{Kind: api.Assert, E: e}), "", api.ErrLong)
}

func TestEachStatement(t *testing.T) {
	x, yes := name("x"), lit(truth(1))
	body := []api.Stmt{{Kind: api.Lock, Name: "m"}, {Kind: api.Unlock, Name: "m"}}
	for _, y := range []struct {
		s    api.Stmt
		want string
	}{
		{api.Stmt{Kind: api.Assign, Name: "x", E: op(api.Add, x, yes)}, "  x = (x + true);\n"},
		{api.Stmt{Kind: api.Lock, Name: "m"}, "  lock m;\n"},
		{api.Stmt{Kind: api.Unlock, Name: "m"}, "  unlock m;\n"},
		{api.Stmt{Kind: api.Assert, E: op(api.Not, x)}, "  assert !x;\n"},
		{api.Stmt{Kind: api.Skip}, "  skip;\n"},
		{api.Stmt{Kind: api.If, E: yes}, "  if true {\n  }\n"},
		{api.Stmt{Kind: api.If, E: yes, Body: body}, "  if true {\n    lock m;\n    unlock m;\n  }\n"},
		{api.Stmt{Kind: api.If, E: yes, Else: body}, "  if true {\n  } else {\n    lock m;\n    unlock m;\n  }\n"},
		{api.Stmt{Kind: api.If, E: yes, Body: body[:1], Else: body[1:]}, "  if true {\n    lock m;\n  } else {\n    unlock m;\n  }\n"},
		{api.Stmt{Kind: api.If, E: yes, Body: []api.Stmt{}, Else: []api.Stmt{}}, "  if true {\n  }\n"},
		{api.Stmt{Kind: api.While, E: x}, "  while x {\n  }\n"},
		{api.Stmt{Kind: api.While, E: x, Body: body}, "  while x {\n    lock m;\n    unlock m;\n  }\n"},
		{api.Stmt{Kind: api.Skip, E: api.Expr{Kids: []api.Expr{}}, Body: []api.Stmt{}, Else: []api.Stmt{}}, "  skip;\n"},
		{api.Stmt{Kind: api.If, E: yes, Body: []api.Stmt{{Kind: api.While, E: x, Body: []api.Stmt{{Kind: api.If, E: x, Else: []api.Stmt{skip()}}}}}},
			"  if true {\n    while x {\n      if x {\n      } else {\n        skip;\n      }\n    }\n  }\n"},
	} {
		checkPrint(t, one(y.s), "thread t {\n"+y.want+"}\n", api.OK)
		checkPrint(t, one(skip(), y.s, skip()), "thread t {\n  skip;\n"+y.want+"  skip;\n}\n", api.OK)
	}
}

// nested tells statements of which each stands in the one ahead of it, and the blocks so deep.
func nested(kind int, other bool, deep int, last ...api.Stmt) []api.Stmt {
	block := last
	for range deep {
		s := api.Stmt{Kind: kind, E: name("x"), Body: block}
		if other {
			s.Body, s.Else = nil, block
		}
		block = []api.Stmt{s}
	}
	return block
}

func TestDepthOfBlocks(t *testing.T) {
	for _, kind := range []int{api.If, api.While, -api.If} {
		other := kind < 0
		if other {
			kind = -kind
		}
		for _, deep := range []int{0, 1, 31, 32} {
			p := one(nested(kind, other, deep, skip())...)
			want, err := expectProgram(p)
			if err != api.OK || strings.Count(want, "\n") != 2+deep*2+map[bool]int{true: deep}[other]+1 {
				t.Fatal(want, err)
			}
			checkPrint(t, p, want, api.OK)
		}
		for _, deep := range []int{33, 34, 500} {
			checkPrint(t, one(nested(kind, other, deep, skip())...), "", api.ErrArg)
			checkPrint(t, one(append([]api.Stmt{skip()}, nested(kind, other, deep, skip())...)...), "", api.ErrArg)
		}
		// A block without statements may be the one that stands deepest.
		p := one(nested(kind, other, 32, api.Stmt{Kind: kind, E: name("x")})...)
		want, err := expectProgram(p)
		if err != api.OK || !strings.Contains(want, strings.Repeat("  ", 33)+"}\n") {
			t.Fatal(want, err)
		}
		checkPrint(t, p, want, api.OK)
	}
	deep := nested(api.If, false, 20, nested(api.While, false, 12, skip())...)
	want, _ := expectProgram(one(deep...))
	checkPrint(t, one(deep...), want, api.OK)
	checkPrint(t, one(nested(api.If, true, 20, nested(api.While, false, 13, skip())...)...), "", api.ErrArg)
}

func TestWhatAStatementDoesNotNameIsEmpty(t *testing.T) {
	body := []api.Stmt{skip()}
	for kind := -2; kind < 12; kind++ {
		// All ways to have or not to have each of the parts.
		for parts := range 16 {
			s := api.Stmt{Kind: kind}
			has := ""
			for i, put := range []func(){func() { s.Name = "x" }, func() { s.E = name("x") }, func() { s.Body = body }, func() { s.Else = body }} {
				if parts>>i&1 == 1 {
					put()
					has += "nebo"[i : i+1]
				}
			}
			want := api.ErrArg
			if fits(kind, has) {
				want = api.OK
			}
			if _, err := tree.Print(one(s)); err != want {
				t.Error(s, err, want)
			}
		}
	}
	for _, e := range []api.Expr{{Name: "x"}, {Lit: api.Value{T: api.Int}}, {Lit: api.Value{Bits: 1}}, {Kids: []api.Expr{{}}}, {Op: 99}, lit(number(0))} {
		checkPrint(t, one(api.Stmt{Kind: api.Skip, E: e}), "", api.ErrArg)
		checkPrint(t, one(api.Stmt{Kind: api.Lock, Name: "m", E: e}), "", api.ErrArg)
		checkPrint(t, one(api.Stmt{Kind: api.Unlock, Name: "m", E: e}), "", api.ErrArg)
	}
}

func TestLinesOfAProgram(t *testing.T) {
	p := api.Program{
		Shared:  []api.Var{{Name: "x", First: number(-3)}, {Name: "y", First: truth(0)}, {Name: "z", First: bits(1 << 63)}},
		Mutexes: []string{"m", "n"},
		Threads: []api.Thread{
			{Name: "a", Locals: []api.Var{{Name: "i", First: bits(api.NaN)}, {Name: "j", First: bits(0xfff0000000000000)}}},
			{Name: "b", Locals: []api.Var{{Name: "k", First: truth(1)}}, Body: []api.Stmt{skip()}},
		},
	}
	checkPrint(t, p, "shared x int = -3;\nshared y bool = false;\nshared z real = -0.0;\nmutex m;\nmutex n;\n"+
		"thread a {\n  local i real = nan;\n  local j real = -inf;\n}\nthread b {\n  local k bool = true;\n  skip;\n}\n", api.OK)
	checkPrint(t, api.Program{}, "", api.OK)
	checkPrint(t, api.Program{Threads: []api.Thread{{Name: "t"}}}, "thread t {\n}\n", api.OK)
	// What is no program may be printed: names that are there twice, that nothing has, any number of all.
	many := api.Program{Mutexes: slices.Repeat([]string{"m"}, 100), Threads: slices.Repeat([]api.Thread{{Name: "m"}}, 50), Shared: slices.Repeat([]api.Var{{Name: "m", First: truth(1)}}, 60)}
	checkPrint(t, many, strings.Repeat("shared m bool = true;\n", 60)+strings.Repeat("mutex m;\n", 100)+strings.Repeat("thread m {\n}\n", 50), api.OK)
}

func TestOddNamesAndValues(t *testing.T) {
	yes := lit(truth(1))
	for _, s := range notNames() {
		for _, p := range []api.Program{
			{Shared: []api.Var{{Name: "x", First: truth(1)}, {Name: s, First: truth(1)}}},
			{Mutexes: []string{"m", s}},
			{Threads: []api.Thread{{Name: "t"}, {Name: s}}},
			{Threads: []api.Thread{{Name: "t", Locals: []api.Var{{Name: s, First: truth(1)}}}}},
			one(skip(), api.Stmt{Kind: api.Assign, Name: s, E: yes}),
			one(skip(), api.Stmt{Kind: api.Lock, Name: s}),
			one(api.Stmt{Kind: api.If, E: yes, Body: []api.Stmt{{Kind: api.Unlock, Name: s}}}),
			one(api.Stmt{Kind: api.If, E: yes, Else: []api.Stmt{{Kind: api.Assert, E: name(s)}}}),
			one(api.Stmt{Kind: api.While, E: yes, Body: []api.Stmt{{Kind: api.Assert, E: name(s)}}}),
		} {
			checkPrint(t, p, "", api.ErrArg)
		}
	}
	for _, v := range oddValues() {
		checkPrint(t, api.Program{Shared: []api.Var{{Name: "x", First: v}}}, "", api.ErrArg)
		checkPrint(t, api.Program{Threads: []api.Thread{{Name: "t", Locals: []api.Var{{Name: "x", First: truth(1)}, {Name: "x", First: v}}}}}, "", api.ErrArg)
		checkPrint(t, one(api.Stmt{Kind: api.If, E: lit(v)}), "", api.ErrArg)
	}
}

func TestLongProgramsAreRefusedBehindAllElse(t *testing.T) {
	// A thread t without statements has 13 bytes, each skip has 8; a thread's name has up to 24.
	p := one(slices.Repeat([]api.Stmt{skip()}, 2046)...)
	p.Threads[0].Name = "abc"
	want := "thread abc {\n" + strings.Repeat("  skip;\n", 2046) + "}\n"
	if len(want) >= 16384 || len(want) < 16384-8 {
		t.Fatal(len(want))
	}
	name := "abc"
	for len(want) <= 16384 {
		p.Threads[0].Name = name
		checkPrint(t, p, want, api.OK)
		want = strings.Replace(want, name, name+"x", 1)
		name += "x"
	}
	p.Threads[0].Name = name
	checkPrint(t, p, "", api.ErrLong)
	for range 3 {
		p.Mutexes = append(p.Mutexes, "m")
		checkPrint(t, p, "", api.ErrLong)
	}
	// A fault at the very end is told all the same.
	p.Threads = append(p.Threads, api.Thread{Name: "t", Body: []api.Stmt{{Kind: api.Lock}}})
	checkPrint(t, p, "", api.ErrArg)
	p.Threads[1].Body = nil
	p.Threads[1].Name = ""
	checkPrint(t, p, "", api.ErrArg)
}

// A program of which very much would be told is refused without a text of that length.
func TestVeryLongProgramsTakeLittleMemory(t *testing.T) {
	e := name("aVeryLongNameOf24Bytes__")
	for range 19 {
		e = op(api.Add, e, e)
	}
	p := one(api.Stmt{Kind: api.Assert, E: e})
	var ahead, behind runtime.MemStats
	runtime.ReadMemStats(&ahead)
	s, err := tree.Print(p)
	runtime.ReadMemStats(&behind)
	if n := behind.TotalAlloc - ahead.TotalAlloc; s != "" || err != api.ErrLong || n > 1<<20 {
		t.Errorf("%d bytes, %v, %d bytes of memory", len(s), err, n)
	}
}

func TestMixedPrograms(t *testing.T) {
	r := rand.New(rand.NewSource(5))
	count := map[api.Errno]int{}
	for range 10000 {
		checkAll(t, some(r, 400), count)
	}
	if count[api.OK] < 8000 || count[api.ErrArg] < 3000 {
		t.Error(count)
	}
}

// checkAll makes two programs that differ in one place at most, and holds all answers about them against what must be.
func checkAll(t *testing.T, c *choices, count map[api.Errno]int) {
	t.Helper()
	left := &choices{c.left}
	p, q := c.program(), left.program()
	if s, err := tree.Print(p); err == api.ErrArg {
		t.Fatalf("%v: %q, %v", p, s, err)
	}
	if n := c.of(4); n > 0 {
		l := changes(&q, c)
		l[(c.of(256)<<8+c.of(256))%len(l)]()
	}
	for _, x := range []api.Program{p, q} {
		want, wantErr := expectProgram(x)
		if s, err := tree.Print(x); s != want || err != wantErr {
			t.Fatalf("%v: %q, %v; not %q, %v", x, s, err, want, wantErr)
		}
		count[wantErr]++
		checkCounts(t, x)
		if cp := tree.Copy(x); !reflect.DeepEqual(cp, x) || !tree.Same(cp, x) || !tree.Same(x, cp) {
			t.Fatalf("%v: %v", x, cp)
		}
	}
	follows(t, p, q)
}

// eachExpr calls f with each expression of a program, and of its expressions.
func eachExpr(p api.Program, f func(e api.Expr)) {
	var inExpr func(e api.Expr)
	inExpr = func(e api.Expr) {
		f(e)
		for _, kid := range e.Kids {
			inExpr(kid)
		}
	}
	eachStmt(p, func(s api.Stmt) { inExpr(s.E) })
}

// eachStmt calls f with each statement of a program.
func eachStmt(p api.Program, f func(s api.Stmt)) {
	var blocks [][]api.Stmt
	for _, x := range p.Threads {
		blocks = append(blocks, x.Body)
	}
	for len(blocks) > 0 {
		block := blocks[0]
		blocks = blocks[1:]
		for _, s := range block {
			f(s)
			blocks = append(blocks, s.Body, s.Else)
		}
	}
}

// levels tells an expression's height, level by level.
func levels(e api.Expr) int {
	n := 0
	for level := []api.Expr{e}; len(level) > 0; n++ {
		var next []api.Expr
		for _, x := range level {
			next = append(next, x.Kids...)
		}
		level = next
	}
	return n
}

func checkCounts(t *testing.T, p api.Program) {
	t.Helper()
	n := 0
	eachStmt(p, func(api.Stmt) { n++ })
	if got := tree.Size(p); got != n {
		t.Fatalf("%v: %d statements, not %d", p, got, n)
	}
	eachExpr(p, func(e api.Expr) {
		if got := tree.Height(e); got != levels(e) {
			t.Fatalf("%v: %d high, not %d", e, got, levels(e))
		}
		want, ok := expectExpr(e, 32)
		if s, err := tree.Expr(e); ok && (s != want || err != api.OK) || !ok && (s != "" || err != api.ErrArg) {
			t.Fatalf("%v: %q, %v; not %q, %t", e, s, err, want, ok)
		}
	})
}

// P5.2

func TestSameInEachPlace(t *testing.T) {
	full := func() api.Program {
		e := api.Expr{Op: 3, Lit: number(1), Name: "e", Kids: []api.Expr{{Op: 1}, {Name: "k", Kids: []api.Expr{{Op: 2}}}}}
		s := api.Stmt{Kind: 5, Name: "s", E: e, Body: []api.Stmt{{Kind: 1}, {Name: "b"}}, Else: []api.Stmt{{Kind: 2, E: e}}}
		v := []api.Var{{Name: "v", First: number(2)}, {Name: "w", First: truth(9)}}
		return api.Program{Shared: v, Mutexes: []string{"m", ""}, Threads: []api.Thread{{}, {Name: "t", Locals: slices.Clone(v), Body: []api.Stmt{s, {}}}}}
	}
	p := full()
	if !tree.Same(p, full()) || !tree.Same(p, p) || tree.Same(p, api.Program{}) || tree.Same(api.Program{}, p) {
		t.Error("same as itself alone")
	}
	for i, put := range []func(p *api.Program){
		func(p *api.Program) { p.Shared[0].Name = "x" },
		func(p *api.Program) { p.Shared[1].First.T = 7 },
		func(p *api.Program) { p.Shared[1].First.Bits++ },
		func(p *api.Program) { p.Shared = p.Shared[:1] },
		func(p *api.Program) { p.Shared = append(p.Shared, api.Var{}) },
		func(p *api.Program) { slices.Reverse(p.Shared) },
		func(p *api.Program) { p.Mutexes[1] = "n" },
		func(p *api.Program) { p.Mutexes = p.Mutexes[:1] },
		func(p *api.Program) { p.Mutexes = append(p.Mutexes, "") },
		func(p *api.Program) { p.Threads = p.Threads[1:] },
		func(p *api.Program) { p.Threads = append(p.Threads, api.Thread{}) },
		func(p *api.Program) { p.Threads[1].Name = "" },
		func(p *api.Program) { p.Threads[1].Locals[1].First.Bits = 0 },
		func(p *api.Program) { p.Threads[1].Locals = nil },
		func(p *api.Program) { p.Threads[1].Body = p.Threads[1].Body[:1] },
		func(p *api.Program) { p.Threads[0].Body = []api.Stmt{{}} },
		func(p *api.Program) { p.Threads[1].Body[0].Kind = 6 },
		func(p *api.Program) { p.Threads[1].Body[0].Name = "" },
		func(p *api.Program) { p.Threads[1].Body[0].E.Op = 4 },
		func(p *api.Program) { p.Threads[1].Body[0].E.Lit.T = 2 },
		func(p *api.Program) { p.Threads[1].Body[0].E.Lit.Bits = 2 },
		func(p *api.Program) { p.Threads[1].Body[0].E.Name = "" },
		func(p *api.Program) { p.Threads[1].Body[0].E.Kids[1].Kids[0].Op = 1 },
		func(p *api.Program) { p.Threads[1].Body[0].E.Kids[1].Kids = nil },
		func(p *api.Program) { slices.Reverse(p.Threads[1].Body[0].E.Kids) },
		func(p *api.Program) { p.Threads[1].Body[0].Body[1].Name = "" },
		func(p *api.Program) { p.Threads[1].Body[0].Body[1].Body = []api.Stmt{{}} },
		func(p *api.Program) { p.Threads[1].Body[0].Else[0].E = api.Expr{} },
		func(p *api.Program) { p.Threads[1].Body[0].Else = nil },
		func(p *api.Program) { s := &p.Threads[1].Body[0]; s.Body, s.Else = s.Else, s.Body },
	} {
		q := full()
		put(&q)
		if tree.Same(p, q) || tree.Same(q, p) || !tree.Same(q, tree.Copy(q)) || equal(p, q) {
			t.Errorf("change %d: %v", i, q)
		}
	}
}

func TestEmptyListsAreNil(t *testing.T) {
	empty := api.Program{Shared: []api.Var{}, Mutexes: []string{}, Threads: []api.Thread{}}
	if !tree.Same(empty, api.Program{}) || !tree.Same(api.Program{}, empty) {
		t.Error("no lists")
	}
	inner := api.Thread{Locals: []api.Var{}, Body: []api.Stmt{{E: api.Expr{Kids: []api.Expr{}}, Body: []api.Stmt{}, Else: []api.Stmt{}}}}
	a, b := api.Program{Threads: []api.Thread{inner}}, api.Program{Threads: []api.Thread{{Body: []api.Stmt{{}}}}}
	if !tree.Same(a, b) || !tree.Same(b, a) {
		t.Error("no inner lists")
	}
}

func TestCopyOfWhateverItIs(t *testing.T) {
	deep := name("x")
	block := []api.Stmt{{}}
	for range 1 << 16 {
		deep = op(99, deep)
		block = []api.Stmt{{Kind: -1, Else: block}}
	}
	for _, p := range []api.Program{{}, {Mutexes: []string{"", "\xff", strings.Repeat("m", 1000)}}, one(api.Stmt{Kind: 12, E: deep}), one(block...)} {
		c := tree.Copy(p)
		if !tree.Same(c, p) || tree.Size(c) != tree.Size(p) {
			t.Errorf("%.200s", fmt.Sprint(p))
		}
		if len(c.Threads) > 0 {
			if n := tree.Height(c.Threads[0].Body[0].E); n != tree.Height(p.Threads[0].Body[0].E) {
				t.Error(n)
			}
		}
	}
	if n := tree.Height(deep); n != 1<<16+1 {
		t.Error(n)
	}
	if n := tree.Size(one(block...)); n != 1<<16+1 {
		t.Error(n)
	}
	checkExpr(t, deep, "", api.ErrArg)
	checkPrint(t, one(block...), "", api.ErrArg)
}

// Statements and Kids are counted wherever they stand, if they may stand there or not.
func TestCounts(t *testing.T) {
	two := []api.Stmt{skip(), {Kind: 99, Body: []api.Stmt{skip()}}}
	p := api.Program{Threads: []api.Thread{{}, {Body: two}, {Body: []api.Stmt{{Body: two, Else: two}, {Kind: api.Skip, Else: two}}}}}
	if n := tree.Size(p); n != 3+1+3+3+1+3 {
		t.Error(n)
	}
	if n := tree.Size(api.Program{Mutexes: []string{"m"}, Shared: []api.Var{{}}}); n != 0 {
		t.Error(n)
	}
	for want, e := range []api.Expr{1: {}, 2: op(99, name("x")), 3: op(api.Lit, api.Expr{}, op(api.Not, api.Expr{}), api.Expr{})} {
		if want > 0 && tree.Height(e) != want {
			t.Error(e, tree.Height(e))
		}
	}
	if n := tree.Height(api.Expr{Kids: []api.Expr{}}); n != 1 {
		t.Error(n)
	}
}

// P5.3

// follows fails if what must follow of two programs does not.
func follows(t *testing.T, p, q api.Program) {
	t.Helper()
	same := tree.Same(p, q)
	if same != equal(p, q) || same != tree.Same(q, p) {
		t.Fatalf("%v and %v: %t", p, q, same)
	}
	a, errA := tree.Print(p)
	b, errB := tree.Print(q)
	if errA == api.OK && errB == api.OK && (a == b) != same {
		t.Fatalf("%v and %v: %q and %q", p, q, a, b)
	}
}

// All small expressions have unlike texts, and their tokens are read.
func TestUnlikeExpressionsHaveUnlikeTexts(t *testing.T) {
	var all []api.Expr
	for _, v := range values() {
		if v.T == api.Bool || v.Bits>>63 == 0 {
			all = append(all, lit(v))
		}
	}
	all = append(all, name("x"), name("int1"), name("_"))
	leaves := len(all)
	for _, a := range all[:leaves] {
		for o := api.Neg; o <= api.ToReal; o++ {
			all = append(all, op(o, a), op(api.Neg, op(o, a)), op(o, op(api.ToInt, a)))
		}
		for _, b := range all[:leaves] {
			for o := api.Or; o <= api.Mod; o++ {
				all = append(all, op(o, a, b), op(api.Not, op(o, a, b)), op(o, op(api.Neg, a), b), op(o, a, op(api.Sub, b, a)), op(o, op(api.Sub, a, b), a))
			}
		}
	}
	seen := map[string]api.Expr{}
	for _, e := range all {
		s, err := tree.Expr(e)
		if other, there := seen[s]; err != api.OK || there && !reflect.DeepEqual(other, e) {
			t.Fatal(e, other, s, err)
		}
		seen[s] = e
		if _, fault := lex.Lex(s); fault != (api.Fault{}) {
			t.Fatal(s, fault)
		}
	}
}

// All small programs have one text just if they are the same.
func TestUnlikeProgramsHaveUnlikeTexts(t *testing.T) {
	yes, x := lit(truth(1)), name("x")
	stmts := []api.Stmt{skip(), {Kind: api.Lock, Name: "x"}, {Kind: api.Assign, Name: "x", E: x}, {Kind: api.If, E: yes}, {Kind: api.While, E: x}}
	for _, s := range slices.Clone(stmts) {
		for _, o := range slices.Clone(stmts)[:4] {
			stmts = append(stmts, api.Stmt{Kind: api.If, E: yes, Body: []api.Stmt{s}}, api.Stmt{Kind: api.If, E: yes, Else: []api.Stmt{s}},
				api.Stmt{Kind: api.If, E: yes, Body: []api.Stmt{s}, Else: []api.Stmt{o}}, api.Stmt{Kind: api.While, E: x, Body: []api.Stmt{s, o}})
		}
	}
	locals := [][]api.Var{nil, {}, {{Name: "x", First: number(1)}}, {{Name: "x", First: bits(0)}}}
	var all []api.Program
	for _, v := range locals {
		for _, s := range stmts {
			all = append(all, api.Program{Shared: v, Threads: []api.Thread{{Name: "x", Body: []api.Stmt{s}}}})
			all = append(all, api.Program{Threads: []api.Thread{{Name: "x", Locals: v, Body: []api.Stmt{s, skip()}}}})
			all = append(all, api.Program{Mutexes: []string{"x"}, Threads: []api.Thread{{Name: "x", Locals: v}, {Name: "x", Body: []api.Stmt{s}}}})
			all = append(all, api.Program{Mutexes: []string{"x", "y"}, Threads: []api.Thread{{Name: "x", Locals: v, Body: []api.Stmt{s}}, {Name: "y"}}})
		}
	}
	texts := make([]string, len(all))
	for i, p := range all {
		s, err := tree.Print(p)
		if err != api.OK {
			t.Fatal(p, err)
		}
		texts[i] = s
		for j, q := range all[:i] {
			if tree.Same(p, q) != (s == texts[j]) {
				t.Fatalf("%v and %v: %q and %q", p, q, s, texts[j])
			}
		}
	}
}

// The rules on memory: what is handed in is neither changed nor kept, and an answer is new.

// memory calls f with each piece of memory that a program has, where it begins and how long it is.
func memory(p api.Program, f func(at, size uintptr)) {
	text := func(s string) { f(uintptr(unsafe.Pointer(unsafe.StringData(s))), uintptr(len(s))) }
	vars := func(l []api.Var) {
		f(uintptr(unsafe.Pointer(unsafe.SliceData(l))), uintptr(cap(l))*unsafe.Sizeof(api.Var{}))
		for _, v := range l {
			text(v.Name)
		}
	}
	vars(p.Shared)
	f(uintptr(unsafe.Pointer(unsafe.SliceData(p.Mutexes))), uintptr(cap(p.Mutexes))*unsafe.Sizeof(""))
	for _, s := range p.Mutexes {
		text(s)
	}
	f(uintptr(unsafe.Pointer(unsafe.SliceData(p.Threads))), uintptr(cap(p.Threads))*unsafe.Sizeof(api.Thread{}))
	block := func(l []api.Stmt) {
		f(uintptr(unsafe.Pointer(unsafe.SliceData(l))), uintptr(cap(l))*unsafe.Sizeof(api.Stmt{}))
	}
	for _, x := range p.Threads {
		text(x.Name)
		vars(x.Locals)
		block(x.Body)
	}
	eachStmt(p, func(s api.Stmt) {
		text(s.Name)
		block(s.Body)
		block(s.Else)
	})
	eachExpr(p, func(e api.Expr) {
		text(e.Name)
		f(uintptr(unsafe.Pointer(unsafe.SliceData(e.Kids))), uintptr(cap(e.Kids))*unsafe.Sizeof(api.Expr{}))
	})
}

func TestCopiesAreNewMemory(t *testing.T) {
	r := rand.New(rand.NewSource(6))
	for range 300 {
		c := some(r, 300)
		p := c.program()
		cp := tree.Copy(p)
		memory(p, func(at, size uintptr) {
			memory(cp, func(other, length uintptr) {
				if size > 0 && length > 0 && at < other+length && other < at+size {
					t.Fatalf("%v: shares %d bytes", p, length)
				}
			})
		})
	}
}

func TestSpareRoomStaysWhereItIs(t *testing.T) {
	kids := []api.Expr{name("x"), name("y")}
	block := []api.Stmt{{Kind: api.Assert, E: op(api.Not, kids[:1]...)}, {Kind: 77}}
	p := api.Program{Shared: make([]api.Var, 1, 9), Mutexes: []string{"m", "n"}[:1], Threads: []api.Thread{{Name: "t", Body: block[:1]}, {Name: "u"}}[:1]}
	p.Shared[0] = api.Var{Name: "x", First: number(1)}
	c := tree.Copy(p)
	if cap(c.Shared) > 1 || cap(c.Mutexes) > 1 || cap(c.Threads) > 1 || cap(c.Threads[0].Body) > 1 || cap(c.Threads[0].Body[0].E.Kids) > 1 {
		t.Error("spare room")
	}
	want := "shared x int = 1;\nmutex m;\nthread t {\n  assert !x;\n}\n"
	checkPrint(t, p, want, api.OK)
	checkPrint(t, c, want, api.OK)
	if block[1].Kind != 77 || kids[1].Name != "y" || len(p.Mutexes[:2][1]) != 1 || !tree.Same(p, c) || tree.Size(p) != 1 {
		t.Error("what stands in the spare room")
	}
}

func TestNothingIsChanged(t *testing.T) {
	r := rand.New(rand.NewSource(7))
	for range 500 {
		c := some(r, 300)
		p := c.program()
		l := changes(&p, c)
		l[r.Intn(len(l))]()
		ahead := fmt.Sprintf("%#v", p)
		tree.Print(p)
		tree.Same(p, api.Program{})
		tree.Same(p, p)
		tree.Copy(p)
		tree.Size(p)
		eachExpr(p, func(e api.Expr) { tree.Expr(e); tree.Height(e) })
		if fmt.Sprintf("%#v", p) != ahead {
			t.Fatal(p, ahead)
		}
	}
}

// FuzzPrograms looks for programs, made of bytes, about which anything is answered that the chapter's words do not say.
func FuzzPrograms(f *testing.F) {
	r := rand.New(rand.NewSource(8))
	for n := range 40 {
		b := make([]byte, n*8)
		r.Read(b)
		f.Add(b)
	}
	f.Fuzz(func(t *testing.T, b []byte) { checkAll(t, &choices{b}, map[api.Errno]int{}) })
}
