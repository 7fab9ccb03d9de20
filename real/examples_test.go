package real_test

import (
	"fmt"
	"testing"

	"assize/api"
	"assize/real"
)

// lit reads a literal that a test needs.
func lit(t *testing.T, s string) uint64 {
	t.Helper()
	bits, err := real.Parse(s)
	if err != api.OK {
		t.Fatalf("Parse(%q): %v", s, err)
	}
	return bits
}

// told puts a call's answers in one text.
func told(answers ...any) string { return fmt.Sprintln(answers...) }

// read tells what Parse answers, in one text.
func read(s string) string {
	bits, err := real.Parse(s)
	return told(fmt.Sprintf("%016x", bits), int(err))
}

// printed tells what Print answers, in one text.
func printed(bits uint64) string {
	s, err := real.Print(bits)
	return told(s, int(err))
}

// cut tells what ToInt answers, in one text.
func cut(bits uint64) string {
	n, ok := real.ToInt(bits)
	return told(n, ok)
}

// The table of the chapter, line by line.
func TestExamples(t *testing.T) {
	zero, one := lit(t, "0.0"), lit(t, "1.0")
	minus, inf := real.Neg(zero), real.Div(one, zero)
	for _, x := range []struct{ call, got, want string }{
		{"Add(0.1, 0.2)", real.Text(real.Add(lit(t, "0.1"), lit(t, "0.2"))), "#3fd3333333333334"},
		{"Add(0.5, 0.25)", printed(real.Add(lit(t, "0.5"), lit(t, "0.25"))), "0.75 0\n"},
		{"Sub(1.0, 1.0)", printed(real.Sub(one, one)), "0.0 0\n"},
		{"Mul(1.5, 2.0)", printed(real.Mul(lit(t, "1.5"), lit(t, "2.0"))), "3.0 0\n"},
		{"Div(1.0, 4.0)", printed(real.Div(one, lit(t, "4.0"))), "0.25 0\n"},
		{"Div(1.0, 0.0)", real.Text(inf), "inf"},
		{"Div(0.0, 0.0)", real.Text(real.Div(zero, zero)), "nan"},
		{"Neg(0.0)", real.Text(minus), "-0.0"},
		{"Canon(fff8000000000001)", fmt.Sprintf("%x", real.Canon(0xfff8000000000001)), "7ff8000000000000"},
		{"May of these bits", told(real.May(0xfff8000000000001)), "false\n"},
		{"Equal(nan, nan)", told(real.Equal(api.NaN, api.NaN)), "false\n"},
		{"Less(nan, 1.0)", told(real.Less(api.NaN, one)), "false\n"},
		{"Equal(0.0, -0.0)", told(real.Equal(zero, minus)), "true\n"},
		{"Less(-0.0, 0.0)", told(real.Less(minus, zero)), "false\n"},
		{"ToInt(-2.5)", cut(real.Neg(lit(t, "2.5"))), "-2 true\n"},
		{"ToInt(inf)", cut(inf), "0 false\n"},
		{"ToInt(9223372036854775808 as a real)", cut(real.Neg(real.FromInt(-1 << 63))), "0 false\n"},
		{"FromInt(3)", printed(real.FromInt(3)), "3.0 0\n"},
		{"Parse(0.1)", read("0.1"), "3fb999999999999a 0\n"},
		{"Parse(.5)", read(".5"), "0000000000000000 4\n"},
		{"Parse(1.)", read("1."), "0000000000000000 4\n"},
		{"Parse(01.0)", read("01.0"), "0000000000000000 4\n"},
		{"Parse(1.0000000)", read("1.0000000"), "0000000000000000 4\n"},
		{"Parse(1234567890.123456)", read("1234567890.123456"), "0000000000000000 4\n"},
		{"Print(0.5)", printed(lit(t, "0.5")), "0.5 0\n"},
		{"Print(100.0)", printed(lit(t, "100.0")), "100.0 0\n"},
		{"Print(inf)", printed(inf), " 2\n"},
	} {
		if x.got != x.want {
			t.Errorf("%s: %s", x.call, x.got)
		}
	}
}
