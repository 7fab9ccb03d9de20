package octet_test

import (
	"fmt"
	"testing"

	"assize/octet"
)

// told puts a call's answers in one text.
func told(answers ...any) string { return fmt.Sprintln(answers...) }

// The table of the chapter, line by line.
func TestExamples(t *testing.T) {
	bytes3, err3 := octet.Bytes(258, 3)
	bytes1, err1 := octet.Bytes(256, 1)
	number, errNumber := octet.Number([]byte{1, 2})
	none, errNone := octet.Number(nil)
	n9, size9, errShort := octet.ReadShort([]byte{172, 2, 9})
	n0, size0, errLonger := octet.ReadShort([]byte{128, 0})
	n1, size1, errCut := octet.ReadShort([]byte{128})
	nought, errNought := octet.ReadDec("07", 9)
	ten, errTen := octet.ReadDec("10", 9)
	minus, errMinus := octet.ReadDec("-1", 9)
	great, errGreat := octet.ReadDec("9223372036854775808", 9)
	two, errTwo := octet.ReadHex("01ff")
	odd, errOdd := octet.ReadHex("1")
	capital, errCapital := octet.ReadHex("FF")
	words, errWords := octet.Words("a bc")
	twice, errTwice := octet.Words("a  b")
	last, errLast := octet.Words("a ")
	text, errText := octet.Fields([][]byte{{7, 8}, {}})
	more, errMore := octet.ReadFields([]byte{2, 2, 7, 8, 0, 0})
	for _, x := range []struct{ call, got, want string }{
		{"Bytes(258, 3)", told(bytes3, int(err3)), "[0 1 2] 0\n"},
		{"Bytes(256, 1)", told(bytes1, int(err1)), "[] 2\n"},
		{"Number(1 2)", told(number, int(errNumber)), "258 0\n"},
		{"Number(none)", told(none, int(errNone)), "0 4\n"},
		{"Short(300)", told(octet.Short(300)), "[172 2]\n"},
		{"ReadShort(172 2 9)", told(n9, size9, int(errShort)), "300 2 0\n"},
		{"ReadShort(128 0)", told(n0, size0, int(errLonger)), "0 0 4\n"},
		{"ReadShort(128)", told(n1, size1, int(errCut)), "0 0 4\n"},
		{"Dec(-5)", told(octet.Dec(-5)), "-5\n"},
		{"ReadDec(07, 9)", told(nought, int(errNought)), "0 4\n"},
		{"ReadDec(10, 9)", told(ten, int(errTen)), "0 3\n"},
		{"ReadDec(-1, 9)", told(minus, int(errMinus)), "0 4\n"},
		{"ReadDec(9223372036854775808, 9)", told(great, int(errGreat)), "0 4\n"},
		{"Hex(1 255)", told(octet.Hex([]byte{1, 255})), "01ff\n"},
		{"ReadHex(01ff)", told(two, int(errTwo)), "[1 255] 0\n"},
		{"ReadHex(1)", told(odd, int(errOdd)), "[] 4\n"},
		{"ReadHex(FF)", told(capital, int(errCapital)), "[] 4\n"},
		{"Words(a bc)", told(words, int(errWords)), "[a bc] 0\n"},
		{"Words(a  b)", told(twice, int(errTwice)), "[] 4\n"},
		{"Words of a and a blank", told(last, int(errLast)), "[] 4\n"},
		{"Fields of 7 8 and nothing", told(text, int(errText)), "[2 2 7 8 0] 0\n"},
		{"ReadFields of that and 0", told(more, int(errMore)), "[] 4\n"},
	} {
		if x.got != x.want {
			t.Errorf("%s: %s", x.call, x.got)
		}
	}
}
