package parse_test

import (
	"fmt"
	"slices"
	"strings"
	"testing"

	"assize/api"
	"assize/lex"
	"assize/parse"
	"assize/tree"
)

// second is a second reader, made rule by rule of the chapter's grammar: a function for each line of it, the first fault kept, and all that comes behind it passed over. Heights are counted as expressions are put together.
type second struct {
	tokens []api.Token
	end    int
	fault  api.Fault
}

// high is an expression with its height.
type high struct {
	e api.Expr
	n int
}

func (r *second) fail(err api.Errno, at int) {
	if r.fault == (api.Fault{}) {
		r.fault = api.Fault{Err: err, At: at}
	}
}

// is tells whether one of these is next, and nothing is wrong so far.
func (r *second) is(texts ...string) bool {
	return r.fault == (api.Fault{}) && len(r.tokens) > 0 && slices.Contains(texts, r.tokens[0].Text)
}

// at tells where the next token is.
func (r *second) at() int {
	if len(r.tokens) == 0 {
		return r.end
	}
	return r.tokens[0].At
}

// eat tells the next token, if there is one and nothing is wrong so far.
func (r *second) eat() api.Token {
	if len(r.tokens) == 0 || r.fault != (api.Fault{}) {
		r.fail(api.ErrBytes, r.end)
		return api.Token{At: r.end}
	}
	token := r.tokens[0]
	r.tokens = r.tokens[1:]
	return token
}

// expect eats one of these; anything else is wrong.
func (r *second) expect(texts ...string) api.Token {
	if !r.is(texts...) {
		r.fail(api.ErrBytes, r.at())
	}
	return r.eat()
}

func (r *second) name() string {
	token := r.eat()
	if token.Kind != api.Word || slices.Contains(language(), token.Text) {
		r.fail(api.ErrBytes, token.At)
	}
	return token.Text
}

func language() []string {
	return strings.Fields("shared mutex thread local int bool real lock unlock assert if else while skip true false nan inf")
}

func (r *second) program() api.Program {
	var p api.Program
	for r.is("shared", "mutex") {
		if r.eat().Text == "shared" {
			p.Shared = append(p.Shared, r.variable())
			continue
		}
		p.Mutexes = append(p.Mutexes, r.name())
		r.expect(";")
	}
	for r.is("thread") {
		r.eat()
		x := api.Thread{Name: r.name()}
		r.expect("{")
		for r.is("local") {
			r.eat()
			x.Locals = append(x.Locals, r.variable())
		}
		x.Body = r.rest(0)
		p.Threads = append(p.Threads, x)
	}
	return p
}

func (r *second) variable() api.Var {
	v := api.Var{Name: r.name()}
	v.First.T = map[string]api.Type{"int": api.Int, "bool": api.Bool, "real": api.Real}[r.expect("int", "bool", "real").Text]
	if r.is("=") {
		r.eat()
		at := r.at()
		minus := r.is("-")
		if minus {
			r.eat()
		}
		token := r.eat()
		value, ok := wordValues(minus)[token.Text]
		if token.Lit.T != 0 {
			value, ok = token.Lit, true
			if minus && value.T == api.Int {
				value.Bits = uint64(-int64(value.Bits))
			} else if minus {
				value.Bits |= 1 << 63
			}
		}
		if !ok {
			r.fail(api.ErrBytes, token.At)
		}
		if value.T != v.First.T {
			r.fail(api.ErrType, at)
		}
		v.First = value
	}
	r.expect(";")
	return v
}

// wordValues tells the values that are words.
func wordValues(minus bool) map[string]api.Value {
	if minus {
		return map[string]api.Value{"inf": bits(0xfff << 52)}
	}
	return map[string]api.Value{"inf": bits(0x7ff << 52), "nan": bits(api.NaN), "true": truth(1), "false": truth(0)}
}

// rest reads statements within so many blocks, up to the } behind them.
func (r *second) rest(within int) []api.Stmt {
	var list []api.Stmt
	for r.fault == (api.Fault{}) && !r.is("}") {
		list = append(list, r.stmt(within))
	}
	r.expect("}")
	return list
}

func (r *second) block(within int) []api.Stmt {
	if open := r.expect("{"); within == 32 {
		r.fail(parse.ErrDepth, open.At)
	}
	return r.rest(within + 1)
}

func (r *second) stmt(within int) api.Stmt {
	kinds := map[string]int{"lock": api.Lock, "unlock": api.Unlock, "assert": api.Assert, "skip": api.Skip, "if": api.If, "while": api.While}
	s := api.Stmt{Kind: api.Assign}
	if r.is("lock", "unlock", "assert", "skip", "if", "while") {
		s.Kind = kinds[r.eat().Text]
	}
	if s.Kind == api.Assign || s.Kind == api.Lock || s.Kind == api.Unlock {
		s.Name = r.name()
	}
	if s.Kind == api.Assign {
		r.expect("=")
	}
	if s.Kind != api.Lock && s.Kind != api.Unlock && s.Kind != api.Skip {
		s.E = r.or(0).e
	}
	if s.Kind != api.If && s.Kind != api.While {
		r.expect(";")
		return s
	}
	s.Body = r.block(within)
	if s.Kind == api.If && r.is("else") {
		r.eat()
		s.Else = r.block(within)
	}
	return s
}

// made tells an expression of its operands; its sign is at a place.
func (r *second) made(o api.Op, at int, kids ...high) high {
	made := high{e: api.Expr{Op: o}}
	for _, kid := range kids {
		made.e.Kids = append(made.e.Kids, kid.e)
		made.n = max(made.n, kid.n)
	}
	made.n++
	if made.n > 32 {
		r.fail(parse.ErrDepth, at)
	}
	return made
}

// signs are the signs of two operands, as the chapter has them.
func signs() map[string]api.Op {
	return map[string]api.Op{"||": api.Or, "&&": api.And, "==": api.Eq, "!=": api.Ne, "<": api.Lt, "<=": api.Le, ">": api.Gt, ">=": api.Ge,
		"+": api.Add, "-": api.Sub, "*": api.Mul, "/": api.Div, "%": api.Mod}
}

// chain reads { .. } or, if it is once alone, [ .. ] of the grammar.
func (r *second) chain(within int, once bool, part func(int) high, texts ...string) high {
	left := part(within)
	for r.is(texts...) {
		sign := r.eat()
		left = r.made(signs()[sign.Text], sign.At, left, part(within))
		if once {
			break
		}
	}
	return left
}

func (r *second) or(within int) high  { return r.chain(within, false, r.and, "||") }
func (r *second) and(within int) high { return r.chain(within, false, r.comp, "&&") }
func (r *second) comp(within int) high {
	return r.chain(within, true, r.sum, "==", "!=", "<", "<=", ">", ">=")
}
func (r *second) sum(within int) high     { return r.chain(within, false, r.product, "+", "-") }
func (r *second) product(within int) high { return r.chain(within, false, r.unary, "*", "/", "%") }

// deeper eats what opens something, and tells it.
func (r *second) deeper(within int) api.Token {
	token := r.eat()
	if within == 32 {
		r.fail(parse.ErrDepth, token.At)
	}
	return token
}

func (r *second) unary(within int) high {
	switch {
	case r.is("-"):
		at := r.deeper(within).At
		return r.made(api.Neg, at, r.unary(within+1))
	case r.is("!"):
		at := r.deeper(within).At
		return r.made(api.Not, at, r.unary(within+1))
	}
	return r.primary(within)
}

func (r *second) primary(within int) high {
	switch {
	case r.is("("):
		r.deeper(within)
		e := r.or(within + 1)
		r.expect(")")
		return e
	case r.is("int", "real"):
		word := r.deeper(within)
		r.expect("(")
		e := r.or(within + 1)
		r.expect(")")
		if word.Text == "int" {
			return r.made(api.ToInt, word.At, e)
		}
		return r.made(api.ToReal, word.At, e)
	case r.is("nan", "inf", "true", "false"):
		return high{lit(wordValues(false)[r.eat().Text]), 1}
	case len(r.tokens) > 0 && r.tokens[0].Lit.T != 0:
		return high{lit(r.eat().Lit), 1}
	}
	return high{name(r.name()), 1}
}

// secondReader tells the second reader of a text; its fault is lex's, if there is one.
func secondReader(s string) *second {
	tokens, fault := lex.Lex(s)
	return &second{tokens: tokens, end: len(s), fault: fault}
}

// done tells the fault of what was read, behind which nothing may stand.
func (r *second) done() api.Fault {
	if len(r.tokens) > 0 {
		r.fail(api.ErrBytes, r.at())
	}
	return r.fault
}

// compare fails if a program's text is read otherwise than by the second reader; it tells whether it is one.
func compare(t *testing.T, s string) bool {
	t.Helper()
	r := secondReader(s)
	want := r.program()
	wantFault := r.done()
	if wantFault != (api.Fault{}) {
		want = api.Program{}
	}
	p, fault := parse.Parse(s)
	if fault != wantFault || !tree.Same(p, want) {
		t.Fatalf("Parse(%.400q) = %.300s, %v; not %.300s, %v", s, fmt.Sprint(p), fault, fmt.Sprint(want), wantFault)
	}
	return fault == (api.Fault{})
}

// compareExpr fails if an expression's text is read otherwise than by the second reader; it tells whether it is one.
func compareExpr(t *testing.T, s string) bool {
	t.Helper()
	r := secondReader(s)
	want := r.or(0).e
	wantFault := r.done()
	if wantFault != (api.Fault{}) {
		want = api.Expr{}
	}
	e, fault := parse.Expr(s)
	if fault != wantFault || !sameExpr(e, want) {
		t.Fatalf("Expr(%.400q) = %.300s, %v; not %.300s, %v", s, fmt.Sprint(e), fault, fmt.Sprint(want), wantFault)
	}
	return fault == (api.Fault{})
}
