package lex_test

import (
	"math"
	"math/big"
	"math/rand"
	"regexp"
	"slices"
	"strconv"
	"strings"
	"testing"
	"unsafe"

	"assize/api"
	"assize/lex"
)

// What may stand at a place, as the chapter's words have it.
var (
	between = regexp.MustCompile(`^(?:[\t\n\r ]|#[^\n]*)+`)
	word    = regexp.MustCompile(`^[a-zA-Z_][a-zA-Z_0-9]*`)
	pointed = regexp.MustCompile(`^[0-9]+\.[0-9]+`)
	whole   = regexp.MustCompile(`^[0-9]+`)
	literal = regexp.MustCompile(`^(?:0|[1-9][0-9]*)\.[0-9]{1,6}$`)
	clinger = regexp.MustCompile(`^[a-zA-Z_.]`)
)

// language has the words of the language, signs its signs, the longer ones first.
func language() []string {
	return strings.Fields("shared mutex thread local int bool real lock unlock assert if else while skip true false nan inf")
}

func signs() []string {
	return strings.Fields("== != <= >= && || ; { } ( ) = < > + - * / % !")
}

// expect tells what Lex must answer, by other means than it has.
func expect(s string) ([]api.Token, api.Fault) {
	if len(s) > 16384 {
		return nil, api.Fault{Err: api.ErrLong, At: 16384}
	}
	var tokens []api.Token
	at := 0
	for {
		at += len(between.FindString(s[at:]))
		if at == len(s) {
			return tokens, api.Fault{}
		}
		token, err := expectToken(s, at)
		if err != api.OK {
			return nil, api.Fault{Err: err, At: at}
		}
		tokens = append(tokens, token)
		at += len(token.Text)
		if token.Lit.T != 0 && clinger.MatchString(s[at:]) {
			return nil, api.Fault{Err: api.ErrBytes, At: at}
		}
	}
}

// expectToken tells the token that must begin at a place, or its error.
func expectToken(s string, at int) (api.Token, api.Errno) {
	rest := s[at:]
	if text := word.FindString(rest); text != "" {
		if len(text) > 24 {
			return api.Token{}, api.ErrName
		}
		return api.Token{Kind: api.Word, Text: text, At: at}, api.OK
	}
	if text := pointed.FindString(rest); text != "" {
		// A literal has at most 15 digits, beside its point.
		x, err := strconv.ParseFloat(text, 64)
		if err != nil || !literal.MatchString(text) || len(text) > 16 {
			return api.Token{}, api.ErrBytes
		}
		return api.Token{Kind: api.Point, Text: text, At: at, Lit: api.Value{T: api.Real, Bits: math.Float64bits(x)}}, api.OK
	}
	if text := whole.FindString(rest); text != "" {
		n, _ := new(big.Int).SetString(text, 10)
		if n.String() != text || !n.IsInt64() {
			return api.Token{}, api.ErrBytes
		}
		return api.Token{Kind: api.Number, Text: text, At: at, Lit: api.Value{T: api.Int, Bits: n.Uint64()}}, api.OK
	}
	for _, text := range signs() {
		if strings.HasPrefix(rest, text) {
			return api.Token{Kind: api.Sign, Text: text, At: at}, api.OK
		}
	}
	return api.Token{}, api.ErrBytes
}

// compare fails if Lex answers a text otherwise than it must.
func compare(t *testing.T, s string) {
	t.Helper()
	got, fault := lex.Lex(s)
	want, wantFault := expect(s)
	if fault != wantFault || !slices.Equal(got, want) {
		t.Fatalf("Lex(%q) = %v, %v; not %v, %v", s, got, fault, want, wantFault)
	}
}

// refused fails if Lex answers otherwise than by this fault, without tokens.
func refused(t *testing.T, s string, err api.Errno, at int) {
	t.Helper()
	tokens, fault := lex.Lex(s)
	if want := (api.Fault{Err: err, At: at}); fault != want || len(tokens) != 0 {
		t.Errorf("Lex(%.60q) = %d tokens, %v; not %v", s, len(tokens), fault, want)
	}
}

// P4.1

func TestLongTextsAreRefusedAheadOfAllElse(t *testing.T) {
	for _, s := range []string{" ", "a", "$", "1a", "#", ";", "0"} {
		for _, n := range []int{16385, 16386, 40000} {
			refused(t, strings.Repeat(s, n), api.ErrLong, 16384)
		}
	}
	refused(t, "$"+strings.Repeat(" ", 16384), api.ErrLong, 16384)
	for _, s := range []string{"\t", "\n", "\r", " ", "#"} {
		if tokens, fault := lex.Lex(strings.Repeat(s, 16384)); fault != (api.Fault{}) || len(tokens) != 0 {
			t.Errorf("%q: %d tokens, %v", s, len(tokens), fault)
		}
	}
	if tokens, fault := lex.Lex(strings.Repeat(";", 16384)); fault != (api.Fault{}) || len(tokens) != 16384 {
		t.Errorf("%d tokens, %v", len(tokens), fault)
	}
	refused(t, strings.Repeat(";", 16383)+"&", api.ErrBytes, 16383)
}

func TestEverySignAlone(t *testing.T) {
	for _, sign := range signs() {
		tokens, fault := lex.Lex(sign)
		if fault != (api.Fault{}) || len(tokens) != 1 || tokens[0] != (api.Token{Kind: api.Sign, Text: sign}) {
			t.Errorf("Lex(%q) = %v, %v", sign, tokens, fault)
		}
	}
}

func TestEveryWordAlone(t *testing.T) {
	for _, s := range append(language(), "x", "_", "Z9_", "a0", "If", "nano", strings.Repeat("a", 24)) {
		tokens, fault := lex.Lex(s)
		if fault != (api.Fault{}) || len(tokens) != 1 || tokens[0] != (api.Token{Kind: api.Word, Text: s}) {
			t.Errorf("Lex(%q) = %v, %v", s, tokens, fault)
		}
	}
}

func TestLongWordsAreRefusedWhereTheyBegin(t *testing.T) {
	long := strings.Repeat("a", 24)
	refused(t, long+"_", api.ErrName, 0)
	refused(t, "x = "+long+"9;", api.ErrName, 4)
	refused(t, ";"+long+long+"$", api.ErrName, 1)
	refused(t, "$"+long+"a", api.ErrBytes, 0)
	// A letter behind a number is refused as that, whatever word it would begin.
	refused(t, "1"+long+"a", api.ErrBytes, 1)
}

func TestTokensAreAsLongAsTheyCanBe(t *testing.T) {
	for _, x := range []struct{ text, want string }{
		{"===", "sign ==, sign ="},
		{"!==", "sign !=, sign ="},
		{"<==", "sign <=, sign ="},
		{"=>=", "sign =, sign >="},
		{"<>", "sign <, sign >"},
		{"!!=", "sign !, sign !="},
		{"&&&&||||", "sign &&, sign &&, sign ||, sign ||"},
		{"--1", "sign -, sign -, number 1"},
		{"iff if0", "word iff, word if0"},
		{"_1.", "error 4 at 2, 0 tokens"},
		{"2.50;", "point 2.50, sign ;"},
		{"12#3\n45", "number 12, number 45"},
		{"a#\xff\x00$\nb", "word a, word b"},
		{"##\r#\n", ""},
		{"#\r$", ""},
		{"", ""},
	} {
		if got := told(x.text); got != x.want {
			t.Errorf("Lex(%q): %s", x.text, got)
		}
	}
}

func TestNumbersUpToTheGreatest(t *testing.T) {
	for _, s := range []string{"0", "1", "9", "10", "9223372036854775806", "9223372036854775807"} {
		compare(t, s)
		if tokens, _ := lex.Lex(s); len(tokens) != 1 || tokens[0].Kind != api.Number {
			t.Errorf("Lex(%q) = %v", s, tokens)
		}
	}
	for _, s := range []string{"00", "01", "0000", "007", "9223372036854775808", "9223372036854775810",
		"9999999999999999999", "18446744073709551616", "18446744073709551617", strings.Repeat("9", 16384), strings.Repeat("0", 16384)} {
		refused(t, s, api.ErrBytes, 0)
	}
	refused(t, "x=  08;", api.ErrBytes, 4)
	refused(t, "01a", api.ErrBytes, 0)
}

func TestPointNumbersAreThoseThatAreRead(t *testing.T) {
	for _, s := range []string{"0.0", "0.1", "2.5", "10.000001", "999999999.999999", "99999999999999.9", "1.500000"} {
		compare(t, s)
		if tokens, _ := lex.Lex(s); len(tokens) != 1 || tokens[0].Kind != api.Point {
			t.Errorf("Lex(%q) = %v", s, tokens)
		}
	}
	for _, s := range []string{"00.0", "01.5", "0.0000000", "1.1234567", "1234567890.123456", "100000000000000.01",
		"999999999999999.9", "0." + strings.Repeat("0", 9000), "01.5x", "1.1234567."} {
		refused(t, s, api.ErrBytes, 0)
	}
	refused(t, "a 1.0000000", api.ErrBytes, 2)
}

func TestNothingClingsToNumbers(t *testing.T) {
	for b := range 256 {
		for _, number := range []string{"0", "12", "9223372036854775807", "2.5", "0.000001"} {
			for _, behind := range []string{"", "0", " 0", "a", ".", ".5", "="} {
				compare(t, number+string([]byte{byte(b)})+behind)
			}
		}
	}
	for _, x := range []struct {
		text string
		at   int
	}{
		{"1_", 1}, {"1if", 1}, {"1.x", 1}, {"1..5", 1}, {"1.5.", 3}, {"1.5.5", 3}, {"1.5e3", 3}, {"0x1", 1}, {"1.", 1}, {"12.\n", 2}, {"(3.4a)", 4}, {"a.b", 1}, {".5", 0}, {";.", 1},
	} {
		refused(t, x.text, api.ErrBytes, x.at)
	}
}

func TestEveryPairOfBytes(t *testing.T) {
	for a := range 256 {
		compare(t, string([]byte{byte(a)}))
		for b := range 256 {
			compare(t, string([]byte{byte(a), byte(b)}))
			compare(t, string([]byte{'x', ' ', byte(a), byte(b), ' ', '1'}))
		}
	}
}

func TestTheFirstFaultIsTold(t *testing.T) {
	long := strings.Repeat("b", 25)
	for _, first := range []struct {
		text string
		err  api.Errno
		at   int
	}{
		{"&", api.ErrBytes, 0}, {"| ", api.ErrBytes, 0}, {"a|b", api.ErrBytes, 1}, {"&&&", api.ErrBytes, 2}, {long, api.ErrName, 0}, {"7 08", api.ErrBytes, 2}, {"7x", api.ErrBytes, 1},
		{"\x00", api.ErrBytes, 0}, {"\v", api.ErrBytes, 0}, {"\f", api.ErrBytes, 0}, {"é", api.ErrBytes, 0}, {"aé", api.ErrBytes, 1}, {"\u00a0", api.ErrBytes, 0}, {"\xff", api.ErrBytes, 0}, {"\x7f", api.ErrBytes, 0},
	} {
		for _, behind := range []string{"", " $", " " + long, " 01", "\n1a", ";"} {
			refused(t, first.text+behind, first.err, first.at)
			refused(t, "# ok $\nok; "+first.text+behind, first.err, first.at+11)
		}
	}
}

// allTexts calls f with each text of up to so many of the pieces.
func allTexts(pieces []string, most int, f func(string)) {
	var grow func(s string, left int)
	grow = func(s string, left int) {
		f(s)
		if left == 0 {
			return
		}
		for _, p := range pieces {
			grow(s+p, left-1)
		}
	}
	grow("", most)
}

func TestAllShortTexts(t *testing.T) {
	bytes := strings.Split("a0.5=&!<# \n$", "")
	allTexts(bytes, 5, func(s string) { compare(t, s) })
}

// mixed tells a text of so many pieces, of all kinds, faults being seldom.
func mixed(r *rand.Rand, n int) string {
	pieces := append(language(), signs()...)
	pieces = append(pieces, "x", "_y2", strings.Repeat("n", 24), "0", "17", "9223372036854775807", "2.5", "0.000001", " ", " ", "\n", "\t", "\r", "# a 1 $\n", "#\n")
	odd := []string{".", "&", "|", "$", "01", "9223372036854775808", "1.0000000", strings.Repeat("n", 25), "\x80", "#"}
	var b strings.Builder
	for range n {
		if r.Intn(200) == 0 {
			b.WriteString(odd[r.Intn(len(odd))])
		} else {
			b.WriteString(pieces[r.Intn(len(pieces))])
		}
		if r.Intn(3) > 0 {
			b.WriteString(" ")
		}
	}
	return b.String()
}

func TestMixedTexts(t *testing.T) {
	r := rand.New(rand.NewSource(4))
	fine := 0
	for range 20000 {
		s := mixed(r, r.Intn(40))
		compare(t, s)
		if _, fault := lex.Lex(s); fault.Err == api.OK {
			fine++
			follows(t, s)
		}
	}
	if fine < 2000 || fine > 18000 {
		t.Errorf("%d texts of 20000 have no fault", fine)
	}
}

// P4.2

func TestWordsOfTheLanguage(t *testing.T) {
	for _, s := range language() {
		if !lex.Word(s) || lex.Name(s) {
			t.Errorf("%s: %t, %t", s, lex.Word(s), lex.Name(s))
		}
		for _, other := range []string{s + "s", s[1:], s[:len(s)-1], strings.ToUpper(s), strings.ToUpper(s[:1]) + s[1:], s + "_", "_" + s, s + "0"} {
			if lex.Word(other) != slices.Contains(language(), other) || lex.Name(other) == lex.Word(other) {
				t.Errorf("%s: %t, %t", other, lex.Word(other), lex.Name(other))
			}
		}
		for _, other := range []string{s + " ", " " + s, s + "\x00", s + ";", s + "\n", "#" + s, s + " " + s} {
			if lex.Word(other) || lex.Name(other) {
				t.Errorf("%q: %t, %t", other, lex.Word(other), lex.Name(other))
			}
		}
	}
}

func TestNames(t *testing.T) {
	for _, s := range []string{"x", "_", "A", "Z", "a", "z", "x_1", "__9", "thread1", "NaN", strings.Repeat("a", 23), strings.Repeat("a", 24), strings.Repeat("9z", 12)[1:]} {
		if !lex.Name(s) || lex.Word(s) {
			t.Errorf("%s: %t, %t", s, lex.Name(s), lex.Word(s))
		}
	}
	for _, s := range []string{"", "1", "1x", "2.5", "=", "==", "!", "#", "$", " x", "x ", "x y", "x;", "x-y", "x.y", "é", "xé", "x\x00", "\n", strings.Repeat("a", 25), strings.Repeat("a", 100), strings.Repeat("a", 1<<20)} {
		if lex.Name(s) || lex.Word(s) {
			t.Errorf("%.60q: %t, %t", s, lex.Name(s), lex.Word(s))
		}
	}
}

func TestNamesOfEveryByte(t *testing.T) {
	for b := range 256 {
		c := string([]byte{byte(b)})
		letter, digit := word.MatchString(c), whole.MatchString(c)
		if lex.Name(c) != letter || lex.Name("x"+c) != (letter || digit) || lex.Name("x"+c+"y") != (letter || digit) || lex.Name(c+"x") != letter {
			t.Errorf("byte %d", b)
		}
	}
}

// P4.3

// follows fails if what must follow of a text's tokens does not.
func follows(t *testing.T, s string) {
	t.Helper()
	tokens, _ := lex.Lex(s)
	end := 0
	var texts []string
	for _, x := range tokens {
		if x.At < end || len(x.Text) == 0 || !strings.HasPrefix(s[x.At:], x.Text) {
			t.Fatalf("%q: %v behind %d", s, x, end)
		}
		if gap := s[end:x.At]; between.FindString(gap) != gap {
			t.Fatalf("%q: %q ahead of %v", s, gap, x)
		}
		end = x.At + len(x.Text)
		texts = append(texts, x.Text)
	}
	if gap := s[end:]; between.FindString(gap) != gap {
		t.Fatalf("%q: %q behind all", s, gap)
	}
	joined := strings.Join(texts, " ")
	// A text of many short tokens is longer with blanks between them than a text may be.
	if len(joined) > api.MaxText {
		return
	}
	again, fault := lex.Lex(joined)
	at := 0
	for i := range again {
		if again[i].At != at || i >= len(tokens) {
			t.Fatalf("%q: %v", s, again)
		}
		at += len(again[i].Text) + 1
		again[i].At = tokens[i].At
	}
	if fault != (api.Fault{}) || !slices.Equal(again, tokens) {
		t.Fatalf("%q: %v, %v", s, again, fault)
	}
}

func TestWhatFollows(t *testing.T) {
	for _, s := range []string{"", " ", "#", "a", "x1=2.5;", "a<=b&&!c", "0 # all 9", "a#b\nc#", "1+-2", "thread t{x=x*2.5;}\r\n", strings.Repeat("a ", 8192), strings.Repeat(";", 8192)} {
		follows(t, s)
	}
}

// The document's rules on memory: an answer is new each time, and shares nothing with the text.
func TestTokensAreNewMemory(t *testing.T) {
	s := strings.Repeat("ab = 2.5;\n", 20)
	first, _ := lex.Lex(s)
	second, _ := lex.Lex(s)
	for i := range first[:cap(first)] {
		first[:cap(first)][i] = api.Token{Kind: 9, Text: "z"}
	}
	if want, _ := expect(s); !slices.Equal(second, want) {
		t.Errorf("%v", second)
	}
	low := uintptr(unsafe.Pointer(unsafe.StringData(s)))
	for _, x := range second {
		if p := uintptr(unsafe.Pointer(unsafe.StringData(x.Text))); p >= low && p < low+uintptr(len(s)) {
			t.Fatalf("%v is a piece of the text", x)
		}
	}
}

// FuzzTokens looks for a text that Lex reads otherwise than the chapter's words say.
func FuzzTokens(f *testing.F) {
	for _, s := range []string{"", "x1=2.5;", "a<=b&&!c", "0 # all 9", "1a", "01", "1.", "a & b", "9223372036854775808", strings.Repeat("a", 25), strings.Repeat(" ", 16385)} {
		f.Add(s)
	}
	f.Fuzz(func(t *testing.T, s string) {
		compare(t, s)
		if _, fault := lex.Lex(s); fault.Err == api.OK {
			follows(t, s)
		}
		text := word.FindString(s)
		if lex.Word(s) != slices.Contains(language(), s) || lex.Name(s) != (text != "" && text == s && len(s) <= 24 && !lex.Word(s)) {
			t.Errorf("%q: %t, %t", s, lex.Word(s), lex.Name(s))
		}
	})
}
