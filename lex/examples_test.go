package lex_test

import (
	"fmt"
	"slices"
	"strings"
	"testing"

	"assize/api"
	"assize/lex"
)

// told tells what Lex answers, in one text as the chapter's table has it.
func told(s string) string {
	tokens, fault := lex.Lex(s)
	if fault != (api.Fault{}) {
		return fmt.Sprintf("error %d at %d, %d tokens", int(fault.Err), fault.At, len(tokens))
	}
	var l []string
	for _, x := range tokens {
		if x.Kind < api.Word || x.Kind > api.Sign {
			return fmt.Sprint("a token of the kind ", x.Kind)
		}
		l = append(l, []string{"word", "number", "point", "sign"}[x.Kind-api.Word]+" "+x.Text)
	}
	return strings.Join(l, ", ")
}

// The table of the chapter, line by line.
func TestExamples(t *testing.T) {
	for _, x := range []struct{ text, want string }{
		{"x1=2.5;", "word x1, sign =, point 2.5, sign ;"},
		{"a<=b&&!c", "word a, sign <=, word b, sign &&, sign !, word c"},
		{"0 # all 9", "number 0"},
		{"1a", "error 4 at 1, 0 tokens"},
		{"01", "error 4 at 0, 0 tokens"},
		{"9223372036854775808", "error 4 at 0, 0 tokens"},
		{"1. ", "error 4 at 1, 0 tokens"},
		{"a & b", "error 4 at 2, 0 tokens"},
		{"$", "error 4 at 0, 0 tokens"},
		{strings.Repeat("a", 25), "error 5 at 0, 0 tokens"},
	} {
		if got := told(x.text); got != x.want {
			t.Errorf("Lex(%q): %s", x.text, got)
		}
	}
}

// A token in full, of each kind: its text, its place, its value.
func TestTokensInFull(t *testing.T) {
	got, fault := lex.Lex("if\t7\n!= 2.5#")
	want := []api.Token{
		{Kind: api.Word, Text: "if", At: 0},
		{Kind: api.Number, Text: "7", At: 3, Lit: api.Value{T: api.Int, Bits: 7}},
		{Kind: api.Sign, Text: "!=", At: 5},
		{Kind: api.Point, Text: "2.5", At: 8, Lit: api.Value{T: api.Real, Bits: 0x4004000000000000}},
	}
	if fault != (api.Fault{}) || !slices.Equal(got, want) {
		t.Errorf("%v, %v", got, fault)
	}
}
