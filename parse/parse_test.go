package parse_test

import (
	"fmt"
	"math"
	"math/rand"
	"slices"
	"strings"
	"testing"
	"unsafe"

	"assize/api"
	"assize/lex"
	"assize/parse"
	"assize/tree"
)

// levels are the signs of two operands by how tight they bind, the loosest first; the comparisons are the third.
func levels() [][]string {
	return [][]string{{"||"}, {"&&"}, {"==", "!=", "<", "<=", ">", ">="}, {"+", "-"}, {"*", "/", "%"}}
}

// signList are the signs of two operands, and the level of each.
func signList() ([]string, map[string]int) {
	var list []string
	level := map[string]int{}
	for i, l := range levels() {
		for _, s := range l {
			list, level[s] = append(list, s), i
		}
	}
	return list, level
}

// allTexts are a token of each kind, and each word and sign.
func allTexts() []string {
	return append(language(), strings.Fields("; { } ( ) = == != < <= > >= + - * / % ! && || x 7 2.5")...)
}

// full is a program that has all that the grammar has.
const full = `shared x int; mutex m; shared y real = -2.5; shared z bool = true;
shared inf1 real = -inf; shared n real = nan; mutex m2;
thread t { local i int = 3; local b bool;
  x = i * (2 + -i) % 7 - 1; lock m; unlock m;
  if x == 3 && !b || z { skip; assert y < inf; } else { while b { } }
  if false { } while int(y) >= 3 { y = real(x) / 2.0; }
}
thread u { }
thread v { skip; }
`

// P6.1, of expressions

func TestEachPairOfSigns(t *testing.T) {
	list, level := signList()
	ops := signs()
	a, b, c := name("a"), name("b"), name("c")
	for _, x := range list {
		checkExpr(t, "a "+x+" b", op(ops[x], a, b))
		checkExpr(t, "-a "+x+" !b", op(ops[x], op(api.Neg, a), op(api.Not, b)))
		for _, y := range list {
			left, right := op(ops[y], op(ops[x], a, b), c), op(ops[x], a, op(ops[y], b, c))
			text := "a" + x + "b" + y + "c"
			switch {
			case level[x] == 2 && level[y] == 2:
				refusedExpr(t, text, api.ErrBytes, 2+len(x))
			case level[y] > level[x]:
				checkExpr(t, text, right)
			default:
				checkExpr(t, text, left)
			}
			checkExpr(t, "(a"+x+"b)"+y+"c", left)
			checkExpr(t, "a"+x+"(b"+y+"c)", right)
		}
	}
}

func TestRowsOfSigns(t *testing.T) {
	list, _ := signList()
	for _, x := range list {
		for _, y := range list {
			for _, z := range list {
				compareExpr(t, "a"+x+"b"+y+"c"+z+"d")
				compareExpr(t, "a"+x+"-(b"+y+"c)"+z+"d"+x+"e")
			}
		}
	}
}

func TestOneOperand(t *testing.T) {
	a := name("a")
	checkExpr(t, "a", a)
	checkExpr(t, "(((a)))", a)
	checkExpr(t, "-a", op(api.Neg, a))
	checkExpr(t, "!a", op(api.Not, a))
	checkExpr(t, "int(a)", op(api.ToInt, a))
	checkExpr(t, "real ( a )", op(api.ToReal, a))
	checkExpr(t, "-!-int(!(a))", op(api.Neg, op(api.Not, op(api.Neg, op(api.ToInt, op(api.Not, a))))))
	checkExpr(t, "-(a+a)", op(api.Neg, op(api.Add, a, a)))
	checkExpr(t, "int(a)*real(a)", op(api.Mul, op(api.ToInt, a), op(api.ToReal, a)))
	checkExpr(t, "a - -a", op(api.Sub, a, op(api.Neg, a)))
	checkExpr(t, "a--a", op(api.Sub, a, op(api.Neg, a)))
	checkExpr(t, "!a==a", op(api.Eq, op(api.Not, a), a))
	// A sign ahead of a literal in an expression is a sign of unary; in a value it is part of that.
	checkExpr(t, "-1", op(api.Neg, lit(number(1))))
}

func TestLiterals(t *testing.T) {
	for _, x := range []struct {
		text string
		v    api.Value
	}{
		{"0", number(0)}, {"1", number(1)}, {"9223372036854775807", number(math.MaxInt64)}, {"9221120237041090560", number(0x7ff8000000000000)},
		{"true", truth(1)}, {"false", truth(0)}, {"nan", bits(api.NaN)}, {"inf", bits(math.Float64bits(math.Inf(1)))},
		{"0.0", bits(0)}, {"2.50", bits(math.Float64bits(2.5))}, {"0.1", bits(math.Float64bits(0.1))},
	} {
		checkExpr(t, x.text, lit(x.v))
		checkExpr(t, "("+x.text+")", lit(x.v))
	}
}

func TestNoExpressions(t *testing.T) {
	for _, x := range []struct {
		text string
		at   int
	}{
		{"", 0}, {" ", 1}, {"# a", 3}, {"a b", 2}, {"a ;", 2}, {"a)", 1}, {")", 0}, {"()", 1}, {"(a b)", 3}, {"(a  ", 4},
		{"+a", 0}, {"*", 0}, {"a +", 3}, {"a + * b", 4}, {"a + + b", 4}, {"a ! b", 2}, {"- ", 2}, {"!", 1}, {"a = b", 2}, {"a == = b", 5},
		{"int", 3}, {"real", 4}, {"int a", 4}, {"int()", 4}, {"int(a", 5}, {"int(a,", 5}, {"int int(a)", 4}, {"bool(a)", 0}, {"int-a", 3}, {"a int", 2}, {"a(b)", 1}, {"(a)(b)", 3}, {"1 2", 2},
		{"if", 0}, {"shared", 0}, {"skip", 0}, {"a + else", 4}, {"{a}", 0}, {"a || (b < c > d)", 12}, {"a < b && c < d < e", 15}, {"a == b || c == d != e", 17}, {"(a < b) < c < d", 12},
	} {
		refusedExpr(t, x.text, api.ErrBytes, x.at)
	}
}

func TestLexFaultsComeFirst(t *testing.T) {
	long := strings.Repeat("a", 25)
	for _, x := range []struct {
		text string
		err  api.Errno
		at   int
	}{
		{"$", api.ErrBytes, 0}, {"thread t { x = ; } &", api.ErrBytes, 19}, {") 1a", api.ErrBytes, 3}, {"; " + long, api.ErrName, 2}, {long, api.ErrName, 0}, {"shared x int = true; 01", api.ErrBytes, 21},
		{strings.Repeat("(", 33) + "$", api.ErrBytes, 33}, {strings.Repeat(" ", 16385), api.ErrLong, 16384}, {"$" + strings.Repeat(")", 16384), api.ErrLong, 16384},
	} {
		refused(t, x.text, x.err, x.at)
		refusedExpr(t, x.text, x.err, x.at)
	}
	checkProgram(t, strings.Repeat(" ", 16384), api.Program{})
	refusedExpr(t, strings.Repeat(" ", 16384), api.ErrBytes, 16384)
	checkExpr(t, "a"+strings.Repeat("\n", 16383), name("a"))
}

func TestAllShortExpressions(t *testing.T) {
	good := 0
	eachSequence(5, strings.Fields("a 1 ( ) - ! < + * && int"), func(s string) {
		if compareExpr(t, s) {
			good++
		}
	})
	if good < 500 {
		t.Error(good)
	}
}

// eachSequence hands all texts of up to n tokens to do.
func eachSequence(n int, texts []string, do func(string)) {
	do("")
	if n == 0 {
		return
	}
	for _, first := range texts {
		eachSequence(n-1, texts, func(s string) {
			if s == "" {
				do(first)
			} else {
				do(first + " " + s)
			}
		})
	}
}

// P6.1, of programs

func TestVariables(t *testing.T) {
	inf := math.Float64bits(math.Inf(1))
	values := []struct {
		text string
		v    api.Value
	}{
		{"0", number(0)}, {"7", number(7)}, {"-7", number(-7)}, {"- 7", number(-7)}, {"-0", number(0)}, {"9223372036854775807", number(math.MaxInt64)}, {"-9223372036854775807", number(-math.MaxInt64)}, {"-9221120237041090560", number(-0x7ff8000000000000)},
		{"true", truth(1)}, {"false", truth(0)},
		{"0.0", bits(0)}, {"-0.0", bits(1 << 63)}, {"2.5", bits(math.Float64bits(2.5))}, {"-2.50", bits(math.Float64bits(-2.5))}, {"inf", bits(inf)}, {"-inf", bits(inf | 1<<63)}, {"-#\ninf", bits(inf | 1<<63)}, {"nan", bits(api.NaN)},
	}
	types := []string{"", "int", "bool", "real"}
	for of := api.Int; of <= api.Real; of++ {
		ahead := "shared x " + types[of]
		checkProgram(t, ahead+";", api.Program{Shared: []api.Var{{Name: "x", First: api.Value{T: of}}}})
		local := api.Program{Threads: []api.Thread{{Name: "t", Locals: []api.Var{{Name: "x", First: api.Value{T: of}}}}}}
		checkProgram(t, "thread t { local x "+types[of]+"; }", local)
		for _, x := range values {
			if x.v.T != of {
				// As soon as the value is read, so whatever stands behind it.
				refused(t, ahead+" = "+x.text+";", api.ErrType, len(ahead)+3)
				refused(t, ahead+" = "+x.text+" )", api.ErrType, len(ahead)+3)
				refused(t, "thread t{local x "+types[of]+"="+x.text, api.ErrType, 18+len(types[of]))
				continue
			}
			checkProgram(t, ahead+"="+x.text+";", api.Program{Shared: []api.Var{{Name: "x", First: x.v}}})
			local.Threads[0].Locals[0].First = x.v
			checkProgram(t, "thread t { local x "+types[of]+" = "+x.text+" ; }", local)
			refused(t, ahead+"="+x.text, api.ErrBytes, len(ahead)+1+len(x.text))
		}
		for _, text := range append(language()[:len(language())-4], strings.Fields("; { ( = + ! x")...) {
			refused(t, ahead+" = "+text+";", api.ErrBytes, len(ahead)+3)
			refused(t, ahead+" = -"+text+";", api.ErrBytes, len(ahead)+4)
		}
		for _, text := range strings.Fields("nan true false -1 - (1) +1") {
			refused(t, ahead+" = -"+text+";", api.ErrBytes, len(ahead)+4)
		}
	}
}

func TestWholePrograms(t *testing.T) {
	x, i := name("x"), name("i")
	half := bits(math.Float64bits(0.5))
	checkProgram(t, "", api.Program{})
	checkProgram(t, "# nothing", api.Program{})
	checkProgram(t, "mutex a; shared x int; mutex b; shared y real = 0.5;", api.Program{
		Shared:  []api.Var{{Name: "x", First: number(0)}, {Name: "y", First: half}},
		Mutexes: []string{"a", "b"},
	})
	// What names and how many there may be is no matter of the text.
	checkProgram(t, "mutex a; mutex a; thread a { } thread a { lock b; }", api.Program{
		Mutexes: []string{"a", "a"},
		Threads: []api.Thread{{Name: "a"}, {Name: "a", Body: []api.Stmt{{Kind: api.Lock, Name: "b"}}}},
	})
	checkProgram(t, "thread t { local i int = 1; local j bool; x = i; lock m; unlock m; assert x; skip; }", api.Program{Threads: []api.Thread{{
		Name:   "t",
		Locals: []api.Var{{Name: "i", First: number(1)}, {Name: "j", First: truth(0)}},
		Body: []api.Stmt{{Kind: api.Assign, Name: "x", E: i}, {Kind: api.Lock, Name: "m"}, {Kind: api.Unlock, Name: "m"},
			{Kind: api.Assert, E: x}, {Kind: api.Skip}},
	}}})
	skip := []api.Stmt{{Kind: api.Skip}}
	checkProgram(t, "thread t{if x{}if x{skip;}if x{skip;}else{}if x{}else{skip;skip;}while x{}while x{while i{skip;}}}", one(
		api.Stmt{Kind: api.If, E: x},
		api.Stmt{Kind: api.If, E: x, Body: skip},
		api.Stmt{Kind: api.If, E: x, Body: skip},
		api.Stmt{Kind: api.If, E: x, Else: slices.Concat(skip, skip)},
		api.Stmt{Kind: api.While, E: x},
		api.Stmt{Kind: api.While, E: x, Body: []api.Stmt{{Kind: api.While, E: i, Body: skip}}},
	))
	// An else goes with the if whose block is closed ahead of it.
	checkProgram(t, "thread t { if x { if i { } else { skip; } } }", one(
		api.Stmt{Kind: api.If, E: x, Body: []api.Stmt{{Kind: api.If, E: i, Else: skip}}},
	))
	checkProgram(t, "thread t { if x { if i { } } else { skip; } }", one(
		api.Stmt{Kind: api.If, E: x, Body: []api.Stmt{{Kind: api.If, E: i}}, Else: skip},
	))
}

func TestNoPrograms(t *testing.T) {
	for _, x := range []struct {
		text string
		at   int
	}{
		{"x", 0}, {"x = 1;", 0}, {"skip;", 0}, {"local x int;", 0}, {";", 0}, {"}", 0}, {"1", 0}, {"int", 0}, {"Shared x int;", 0},
		{"shared", 6}, {"shared ;", 7}, {"shared int int;", 7}, {"shared inf real;", 7}, {"shared x", 8}, {"shared x;", 8}, {"shared x 1;", 9}, {"shared x y;", 9}, {"shared x int", 12}, {"shared x int y", 13}, {"shared x int == 1;", 13}, {"shared x int = 1 + 1;", 17}, {"shared x int = 1,", 16}, {"shared x int = -  ", 18}, {"shared x int = ;", 15}, {"shared x, y int;", 8}, {"shared 1 int;", 7},
		{"mutex", 5}, {"mutex m", 7}, {"mutex m n;", 8}, {"mutex 1;", 6}, {"mutex real;", 6}, {"mutex m = 1;", 8}, {"mutex m int;", 8}, {"mutex m;;", 8},
		{"thread", 6}, {"thread {", 7}, {"thread if { }", 7}, {"thread t", 8}, {"thread t ;", 9}, {"thread t (", 9}, {"thread t {", 10}, {"thread t { } }", 13}, {"thread t { };", 12}, {"thread t { } mutex m;", 13}, {"thread t { } shared x int;", 13}, {"thread t { thread u { } }", 11}, {"thread t { shared x int; }", 11},
		{"thread t { skip; local x int; }", 17}, {"thread t { if true { local x int; } }", 21}, {"thread t { { } }", 11}, {"thread t { ; }", 11}, {"thread t { else { } }", 11}, {"thread t { 1 = x; }", 11}, {"thread t { true = x; }", 11}, {"thread t { int(x) = 1; }", 11}, {"thread t { (x) = 1; }", 11},
		{"thread t { x }", 13}, {"thread t { x == 1; }", 13}, {"thread t { x = ; }", 15}, {"thread t { x = 1 }", 17}, {"thread t { x = y = 1; }", 17}, {"thread t { x = 1; } }", 20}, {"thread t { lock; }", 15}, {"thread t { lock m }", 18}, {"thread t { lock m, n; }", 17}, {"thread t { unlock 1; }", 18}, {"thread t { unlock m", 19}, {"thread t { lock (m); }", 16}, {"thread t { assert; }", 17}, {"thread t { assert x }", 20}, {"thread t { skip }", 16}, {"thread t { skip skip; }", 16},
		{"thread t { if { } }", 14}, {"thread t { if x skip; }", 16}, {"thread t { if x ; }", 16}, {"thread t { if x { skip; }", 25}, {"thread t { if x { } else }", 25}, {"thread t { if x { } else skip; }", 25}, {"thread t { if x { } else if y { } }", 25}, {"thread t { if x { } else { } else { } }", 29}, {"thread t { if x { }; }", 19}, {"thread t { while x { } else { } }", 23}, {"thread t { while { } }", 17}, {"thread t { while x } }", 19}, {"thread t { while true", 21}, {"thread t { while (x { } }", 20},
	} {
		at := x.at
		if strings.Contains(x.text, ",") {
			// A , is no token at all.
			at = strings.Index(x.text, ",")
		}
		refused(t, x.text, api.ErrBytes, at)
	}
}

func TestEachTokenOtherwise(t *testing.T) {
	if !compare(t, full) {
		t.Fatal("the program is none")
	}
	tokens, _ := lex.Lex(full)
	var texts []string
	for _, x := range tokens {
		texts = append(texts, x.Text)
	}
	join := func(l ...[]string) string { return strings.Join(slices.Concat(l...), " ") }
	for i := range texts {
		compare(t, join(texts[:i]))
		compare(t, join(texts[:i], texts[i+1:]))
		for _, s := range allTexts() {
			compare(t, join(texts[:i], []string{s}, texts[i:]))
			compare(t, join(texts[:i], []string{s}, texts[i+1:]))
		}
	}
}

func TestAllShortPrograms(t *testing.T) {
	eachSequence(4, strings.Fields("shared mutex thread x int = 1 - ; { } local"), func(s string) { compare(t, s) })
	eachSequence(4, strings.Fields("local x int = 1 ; { } if else while lock assert skip ("), func(s string) {
		compare(t, "thread t { "+s+" }")
	})
	for _, ahead := range []string{"shared x", "thread t { if a {", "thread t { local x int; while a"} {
		eachSequence(3, allTexts(), func(s string) { compare(t, ahead+" "+s) })
	}
}

func TestTokensAtRandom(t *testing.T) {
	r := rand.New(rand.NewSource(6))
	tokens, _ := lex.Lex(full)
	all := allTexts()
	for range 20000 {
		// A piece of a program with some tokens changed, so that faults come behind much that is right.
		to := len(tokens)
		if r.Intn(2) == 0 {
			to = r.Intn(len(tokens) + 1)
		}
		var texts []string
		for _, x := range tokens[:to] {
			texts = append(texts, x.Text)
		}
		for range r.Intn(3) {
			i, j := r.Intn(len(texts)+1), r.Intn(len(texts)+1)
			i, j = min(i, j), max(i, j)
			switch r.Intn(3) {
			case 0:
				texts = slices.Concat(texts[:j], texts[i:])
			case 1:
				texts = slices.Concat(texts[:i], texts[j:])
			default:
				texts = slices.Insert(texts, i, all[r.Intn(len(all))])
			}
		}
		compare(t, strings.Join(texts, " "))
	}
}

// P6.1, what is too deep

func TestOpenedTooOften(t *testing.T) {
	rep := strings.Repeat
	checkExpr(t, rep("(", 32)+"a"+rep(")", 32), name("a"))
	refusedExpr(t, rep("(", 33)+"a"+rep(")", 33), parse.ErrDepth, 32)
	refusedExpr(t, rep("(", 32), api.ErrBytes, 32)
	refusedExpr(t, rep("(", 32)+")", api.ErrBytes, 32)
	for _, last := range []string{"(", "-", "!", "int", "real", "int(", "real (a"} {
		for _, open := range []string{"( ", "- ", "! ", "int( ", "real( ", "-( ", "int((!( "} {
			n := 32 / strings.Count(strings.NewReplacer("int(", "i", "real(", "i", "-", "i", "!", "i", "(", "i").Replace(open), "i")
			refusedExpr(t, rep(open, n)+last, parse.ErrDepth, n*len(open))
			refused(t, "thread t { assert "+rep(open, n)+last, parse.ErrDepth, 18+n*len(open))
			compareExpr(t, rep(open, n-1)+last)
			compareExpr(t, rep(open, n)+"a")
		}
	}
	// What is closed, or ended, is none of those within which a thing stands.
	deep := rep("(", 32) + "a" + rep(")", 32)
	checkExpr(t, deep+"+"+deep, op(api.Add, name("a"), name("a")))
	checkExpr(t, "-a+"+deep, op(api.Add, op(api.Neg, name("a")), name("a")))
	checkExpr(t, "int(a)+"+deep, op(api.Add, op(api.ToInt, name("a")), name("a")))
	refusedExpr(t, "-(a)+("+deep+")", parse.ErrDepth, 37)
	refusedExpr(t, "-"+deep, parse.ErrDepth, 32)
	refusedExpr(t, "a+(b*"+deep+")", parse.ErrDepth, 36)
	s := api.Stmt{Kind: api.Assert, E: name("a")}
	checkProgram(t, "thread t { assert "+deep+"; assert "+deep+"; if "+deep+" { assert "+deep+"; } while "+deep+" { x = "+deep+"; } }", one(s, s,
		api.Stmt{Kind: api.If, E: name("a"), Body: []api.Stmt{s}},
		api.Stmt{Kind: api.While, E: name("a"), Body: []api.Stmt{{Kind: api.Assign, Name: "x", E: name("a")}}},
	))
}

func TestTooHigh(t *testing.T) {
	rep := strings.Repeat
	list, level := signList()
	for _, sign := range list {
		if level[sign] == 2 {
			continue
		}
		e := name("a")
		for range 31 {
			e = op(signs()[sign], e, name("a"))
		}
		row := "a" + rep(sign+"a", 31)
		last := len(row)
		checkExpr(t, row, e)
		checkExpr(t, "("+row+")", e)
		refusedExpr(t, row+sign+"a", parse.ErrDepth, last)
		// As soon as the second operand is read, so ahead of what is wrong behind it, but not of what is wrong in it.
		refusedExpr(t, row+sign+"a a", parse.ErrDepth, last)
		refusedExpr(t, row+sign+"a)", parse.ErrDepth, last)
		refusedExpr(t, "("+row+sign+"a", parse.ErrDepth, last+1)
		refusedExpr(t, row+sign, api.ErrBytes, last+len(sign))
		refusedExpr(t, row+sign+"(a", api.ErrBytes, last+len(sign)+2)
		refusedExpr(t, row+sign+"(a b)", api.ErrBytes, last+len(sign)+3)
		refusedExpr(t, "a"+sign+"("+row+")", parse.ErrDepth, 1)
		refusedExpr(t, "a"+sign+"("+row, api.ErrBytes, 1+len(sign)+1+last)
		for _, ahead := range []string{"-", "!"} {
			refusedExpr(t, ahead+"("+row+")", parse.ErrDepth, 0)
			refusedExpr(t, ahead+"("+row+") )", parse.ErrDepth, 0)
			refusedExpr(t, ahead+"("+row, api.ErrBytes, 2+last)
		}
		for _, ahead := range []string{"int", "real"} {
			refusedExpr(t, "b+"+ahead+"("+row+")", parse.ErrDepth, 2)
			refusedExpr(t, ahead+"("+row, api.ErrBytes, len(ahead)+1+last)
		}
		for _, other := range list {
			compareExpr(t, "("+row+")"+other+"b")
			compareExpr(t, row+other+"b")
			compareExpr(t, "b"+other+row)
			compareExpr(t, row+other+"b == c == d")
			compareExpr(t, row+other+"b"+other+"c )")
		}
	}
	// Signs alone are a height, brackets alone are none.
	refusedExpr(t, rep("-", 32)+"a", parse.ErrDepth, 0)
	refusedExpr(t, "a + "+rep("!", 32)+"a", parse.ErrDepth, 4)
	refusedExpr(t, rep("int(", 32)+"a"+rep(")", 32), parse.ErrDepth, 0)
	refusedExpr(t, rep("int(", 32)+"a"+rep(")", 31), api.ErrBytes, 32*4+1+31)
	compareExpr(t, rep("-", 31)+"a")
	compareExpr(t, rep("-", 31)+"a+a")
	compareExpr(t, rep("-", 16)+"("+"a"+rep("+a", 15)+")")
	compareExpr(t, rep("-", 16)+"("+"a"+rep("+a", 16)+")")
	// A second comparison can't stand anywhere, but what stands ahead of it is read.
	row := "a" + rep("||a", 31)
	refusedExpr(t, row+"||b<c<d", parse.ErrDepth, len(row))
	refusedExpr(t, "a"+rep("||a", 30)+"||b<c<d", api.ErrBytes, 1+30*3+5)
}

func TestBlocksTooDeep(t *testing.T) {
	rep := strings.Repeat
	for _, open := range []string{"while a {", "if a {", "if a { skip; } else {"} {
		deep := "thread t { " + rep(open, 32)
		if !compare(t, deep+rep("}", 33)) || !compare(t, deep+"skip;"+rep("}", 33)) {
			t.Error("refused: ", open)
		}
		for _, more := range []string{"while b {", "if b {", "while b { ) ", "if b { skip; } else { } }"} {
			refused(t, deep+more, parse.ErrDepth, len(deep)+strings.Index(more, "{"))
		}
		refused(t, deep+"while b", api.ErrBytes, len(deep)+7)
		refused(t, deep+"while b }", api.ErrBytes, len(deep)+8)
		// An else's block is as deep as the one ahead of it.
		almost := "thread t { " + rep(open, 31)
		if !compare(t, almost+"if b { } else { } while c { }"+rep("}", 32)) {
			t.Error("refused: ", open)
		}
		refused(t, almost+"if b { } else { if c { } }", parse.ErrDepth, len(almost)+21)
	}
}

// P6.2

// writer writes programs down by the grammar, token by token, as bytes choose; when they are spent all choices are the first one.
type writer struct {
	left   []byte
	tokens []string
}

func (w *writer) of(n int) int {
	if len(w.left) == 0 {
		return 0
	}
	b := w.left[0]
	w.left = w.left[1:]
	return int(b) % n
}

// put writes tokens that stand in a row.
func (w *writer) put(texts string) { w.tokens = append(w.tokens, strings.Fields(texts)...) }

// one writes one of these.
func (w *writer) one(texts ...string) { w.put(texts[w.of(len(texts))]) }

func (w *writer) name() { w.one("x", "y", "x1", "_", "aVeryLongNameOf24Bytes__", "Int", "ifs") }

func (w *writer) literal() {
	w.one("1", "0", "true", "false", "nan", "inf", "9223372036854775807", "0.0", "0.5", "2.50", "0.1", "999999999.999999")
}

// expr writes operands with signs between them that bind so tight at least.
func (w *writer) expr(level int) {
	if level == len(levels()) {
		w.operand()
		return
	}
	w.expr(level + 1)
	for w.of(8) > 5 {
		w.one(levels()[level]...)
		w.expr(level + 1)
		if level == 2 {
			return
		}
	}
}

func (w *writer) operand() {
	switch w.of(9) {
	case 0, 1, 2:
		w.name()
	case 3, 4:
		w.literal()
	case 5, 6:
		w.one("-", "!")
		w.operand()
	default:
		w.one("(", "int (", "real (")
		w.expr(0)
		w.put(")")
	}
}

func (w *writer) block() {
	w.put("{")
	w.stmts()
}

// stmts writes statements, and the } behind them.
func (w *writer) stmts() {
	for range w.of(4) {
		w.stmt()
	}
	w.put("}")
}

func (w *writer) stmt() {
	kind := w.of(7)
	w.put([]string{"skip", "lock", "unlock", "assert", "while", "if", ""}[kind])
	if kind == 1 || kind == 2 || kind == 6 {
		w.name()
	}
	if kind == 6 {
		w.put("=")
	}
	if kind > 2 {
		w.expr(0)
	}
	if kind != 4 && kind != 5 {
		w.put(";")
		return
	}
	w.block()
	if kind == 5 && w.of(2) == 0 {
		w.put("else")
		w.block()
	}
}

func (w *writer) vars(word string) {
	for range w.of(3) {
		w.put(word)
		w.name()
		w.one("int", "bool", "real", "int = 7", "int = - 7", "int = - 9223372036854775807", "int = - 9221120237041090560", "bool = true", "bool = false",
			"real = nan", "real = inf", "real = - inf", "real = 0.0", "real = - 0.0", "real = - 2.50")
		w.put(";")
	}
}

func (w *writer) program() {
	for range w.of(3) {
		w.vars("shared")
		w.put("mutex")
		w.name()
		w.put(";")
	}
	for range w.of(4) {
		w.put("thread")
		w.name()
		w.put("{")
		w.vars("local")
		w.stmts()
	}
}

// some tells a writer with bytes at random.
func some(r *rand.Rand, most int) *writer {
	b := make([]byte, r.Intn(most))
	r.Read(b)
	return &writer{left: b}
}

// againExpr fails if an expression is not read of its text.
func againExpr(t *testing.T, e api.Expr) {
	t.Helper()
	s, err := tree.Expr(e)
	if err != api.OK {
		t.Fatalf("%.300s: %v", fmt.Sprint(e), err)
	}
	if len(s) <= 16384 {
		checkExpr(t, s, e)
	}
}

// again fails if a program may not be printed, or is not read of its text; it tells whether it has one that is not too long.
func again(t *testing.T, p api.Program) bool {
	t.Helper()
	s, err := tree.Print(p)
	if err == api.ErrLong {
		return false
	}
	if err != api.OK {
		t.Fatalf("%.300s: %v", fmt.Sprint(p), err)
	}
	checkProgram(t, s, p)
	return true
}

func TestWhatIsPrintedIsReadAndWhatIsReadIsPrinted(t *testing.T) {
	r := rand.New(rand.NewSource(62))
	read, printed, deep := 0, 0, 0
	for range 4000 {
		w := some(r, 1000)
		w.program()
		s := strings.Join(w.tokens, " ")
		if !compare(t, s) {
			// By the grammar it is one: it may but be too deep, or too long.
			if _, fault := parse.Parse(s); fault.Err != parse.ErrDepth && fault.Err != api.ErrLong {
				t.Fatalf("%q: %v", s, fault)
			}
			deep++
			continue
		}
		read++
		// The second reader's tree, so that it is not this one's own that is printed.
		if again(t, secondReader(s).program()) {
			printed++
		}
	}
	if read < 2000 || printed < 2000 || deep == 0 {
		t.Error(read, printed, deep)
	}
	for range 4000 {
		w := some(r, 300)
		w.expr(0)
		if s := strings.Join(w.tokens, " "); compareExpr(t, s) {
			againExpr(t, secondReader(s).or(0).e)
		}
	}
	if p, _ := parse.Parse(full); !again(t, p) {
		t.Error("too long")
	}
}

func TestReadButTooLongToBePrinted(t *testing.T) {
	s := "thread t{" + strings.Repeat("x=1;", 4000) + "}"
	p, fault := parse.Parse(s)
	if _, err := tree.Print(p); fault != (api.Fault{}) || err != api.ErrLong || tree.Size(p) != 4000 {
		t.Error(fault, err, tree.Size(p))
	}
}

func TestThe32nd(t *testing.T) {
	// Expressions 32 high, of all operators.
	for o := api.Or; o <= api.ToReal; o++ {
		left, right := name("a"), name("a")
		for range 31 {
			if o >= api.Neg {
				left, right = op(o, left), op(o, right)
				continue
			}
			left, right = op(o, left, name("b")), op(o, name("b"), right)
		}
		againExpr(t, left)
		againExpr(t, right)
	}
	// Blocks 32 deep, the last of them with a statement and without.
	for _, inner := range [][]api.Stmt{nil, {{Kind: api.Skip}}} {
		body := inner
		for range 32 {
			body = []api.Stmt{{Kind: api.While, E: name("a"), Body: body}}
		}
		if !again(t, one(body...)) {
			t.Error("too long")
		}
	}
}

// spaced joins tokens by other blanks and comments, and tells where each begins, and where the text ends.
func spaced(r *rand.Rand, tokens []api.Token) (string, []int) {
	gaps := []string{" ", "\n", "\t\r", "  ", "#\n", "# if { ; $ \x00\n", " #x\n#\n "}
	var b strings.Builder
	var places []int
	for _, x := range tokens {
		b.WriteString(gaps[r.Intn(len(gaps))])
		places = append(places, b.Len())
		b.WriteString(x.Text)
	}
	b.WriteString([]string{"", " ", "# end", "\n"}[r.Intn(4)])
	return b.String(), append(places, b.Len())
}

func TestBlanksAndCommentsChangePlacesAlone(t *testing.T) {
	r := rand.New(rand.NewSource(64))
	texts := []string{full, full + ";", strings.Replace(full, "-2.5", "- 2", 1), strings.Replace(full, "lock m;", "lock m", 1), full[:len(full)-10], "thread t { x = " + strings.Repeat("(", 33), "thread t { x = 1" + strings.Repeat("+1", 40)}
	for _, s := range texts {
		tokens, _ := lex.Lex(s)
		p, fault := parse.Parse(s)
		index := slices.IndexFunc(tokens, func(x api.Token) bool { return x.At == fault.At })
		if fault.At == len(s) {
			index = len(tokens)
		}
		for range 200 {
			other, places := spaced(r, tokens)
			want := api.Fault{Err: fault.Err}
			if fault.Err != api.OK {
				want.At = places[index]
			}
			if q, got := parse.Parse(other); got != want || !tree.Same(p, q) {
				t.Fatalf("%q: %v, not %v", other, got, want)
			}
		}
	}
}

// Rules of the document

func TestAnswersAreNewMemory(t *testing.T) {
	text := []byte(full)
	s := unsafe.String(&text[0], len(text))
	p, fault := parse.Parse(s)
	e, faultE := parse.Expr(s[9:10])
	if fault != (api.Fault{}) || faultE != (api.Fault{}) {
		t.Fatal(fault, faultE)
	}
	want, wantE := fmt.Sprint(p), fmt.Sprint(e)
	// Whoever holds the text's bytes changes them.
	for i := range text {
		text[i] = '$'
	}
	if fmt.Sprint(p) != want || fmt.Sprint(e) != wantE {
		t.Error("an answer shares its text's memory")
	}
	q, _ := parse.Parse(full)
	p.Threads[0].Body[0].E.Kids[0].Kids[0].Op = 99
	p.Shared[0].Name = "changed"
	p.Threads[0].Locals = append(p.Threads[0].Locals[:0], api.Var{})
	if again, _ := parse.Parse(full); !tree.Same(q, again) || fmt.Sprint(q) != want {
		t.Error("two answers share memory")
	}
}

func TestListsOfOneAnswerShareNothing(t *testing.T) {
	p, _ := parse.Parse(full)
	want := tree.Copy(p)
	// What is appended to one list, into its spare room, is seen in no other one.
	var spoil func(block []api.Stmt)
	spoilExpr := func(e api.Expr) { _ = append(e.Kids, name("spoiled"), name("spoiled")) }
	spoil = func(block []api.Stmt) {
		for _, s := range block {
			spoilExpr(s.E)
			for _, kid := range s.E.Kids {
				spoilExpr(kid)
			}
			spoil(s.Body)
			spoil(s.Else)
		}
		_ = append(block, api.Stmt{Kind: 99}, api.Stmt{Kind: 99})
	}
	_ = append(p.Shared, api.Var{Name: "spoiled"})
	_ = append(p.Mutexes, "spoiled")
	_ = append(p.Threads, api.Thread{Name: "spoiled"})
	for _, x := range p.Threads {
		_ = append(x.Locals, api.Var{Name: "spoiled"})
		spoil(x.Body)
	}
	if !tree.Same(p, want) {
		t.Error("lists of one answer share memory")
	}
}

func TestGreatTextsAreReadSoon(t *testing.T) {
	// As high and as wide as a text can be.
	e := "1"
	for len(e)*2+3 <= 16384 {
		e = "(" + e + "+" + e + ")"
	}
	for _, s := range []string{e, strings.Repeat("(", 32) + "1" + strings.Repeat("+1", 31) + strings.Repeat(")", 32)} {
		if !compareExpr(t, s) {
			t.Error("refused")
		}
	}
	for _, one := range []string{"skip;", "x=1;", "lock m;", "if a{}else{}", "while a{while b{}}"} {
		if !compare(t, "thread t{"+strings.Repeat(one, 16000/len(one))+"}") {
			t.Error("refused: ", one)
		}
	}
	for _, one := range []string{"mutex m;", "shared x int;", "thread t{}", "thread t{local x int;}"} {
		if !compare(t, strings.Repeat(one, 16384/len(one))) {
			t.Error("refused: ", one)
		}
	}
	for _, one := range []string{"(", "-", "int(", "1+", "1", ")", "{", "if a{", "thread t{"} {
		compare(t, strings.Repeat(one, 16384/len(one)))
		compareExpr(t, strings.Repeat(one, 16384/len(one)))
		compare(t, "thread t{x="+strings.Repeat(one, 16000/len(one)))
		compare(t, "thread t{"+strings.Repeat(one, 16000/len(one)))
	}
}

func FuzzTexts(f *testing.F) {
	for _, s := range []string{full, "a - b - c * -d", "a < b < c", "shared x int = true;", "thread t { x = 1 }", "1" + strings.Repeat("+1", 32), strings.Repeat("(", 33), ""} {
		f.Add(s)
	}
	f.Fuzz(func(t *testing.T, s string) {
		if compareExpr(t, s) {
			e, _ := parse.Expr(s)
			againExpr(t, e)
		}
		if compare(t, s) {
			p, _ := parse.Parse(s)
			again(t, p)
		}
	})
}
