package real_test

import (
	"fmt"
	"math"
	"math/big"
	"math/rand/v2"
	"regexp"
	"strings"
	"testing"

	"assize/api"
	"assize/real"
)

const (
	inf   uint64 = 0x7ff0000000000000
	minus uint64 = 1 << 63 // the sign, and the nought below 0
)

// A literal as the chapter has it, but for how many digits there are in all.
var shape = regexp.MustCompile(`\A(0|[1-9][0-9]*)\.[0-9]{1,6}\z`)

// nans tells NaNs that are not the one.
func nans() []uint64 {
	return []uint64{
		0x7ff0000000000001, 0x7ff4000000000000, 0x7ff7ffffffffffff, 0x7ff8000000000001, 0x7fffffffffffffff,
		0xfff0000000000001, 0xfff4000000000000, 0xfff8000000000000, 0xfff8000000000001, 0xffffffffffffffff,
	}
}

// edges tells reals at which something changes, both signs of each, and all kinds of NaN.
func edges() []uint64 {
	l := []uint64{
		0, 1, 2, 3, 0x000fffffffffffff, 0x0010000000000000, 0x0010000000000001, 0x001fffffffffffff, 0x0020000000000000,
		0x1ff0000000000000, 0x2000000000000000, 0x3c90000000000000, 0x3ca0000000000000, 0x3ca0000000000001,
		0x3fe0000000000000, 0x3fefffffffffffff, 0x3ff0000000000000, 0x3ff0000000000001, 0x3ff8000000000000,
		0x4000000000000000, 0x4008000000000000, 0x4024000000000000, 0x3fb999999999999a, 0x3fc999999999999a,
		0x4330000000000000, 0x433fffffffffffff, 0x4340000000000000, 0x4340000000000001, 0x43dfffffffffffff,
		0x43e0000000000000, 0x43e0000000000001, 0x5fe0000000000000, 0x5ff0000000000000, 0x7c90000000000000,
		0x7c8fffffffffffff, 0x7ca0000000000000, 0x7fd0000000000000, 0x7fe0000000000000, 0x7feffffffffffffe,
		0x7fefffffffffffff, inf,
	}
	for _, bits := range l {
		l = append(l, bits|minus)
	}
	return append(append(l, api.NaN), nans()...)
}

// chance tells the same bits at each run.
func chance() *rand.Rand { return rand.New(rand.NewPCG(3, 5)) }

// someBits tells any bits, every other time of a number of middling size.
func someBits(r *rand.Rand) uint64 {
	bits := r.Uint64()
	if r.IntN(2) == 0 {
		exponent := uint64(1023 - 60 + r.IntN(120))
		bits = bits&^(0x7ff<<52) | exponent<<52
	}
	return bits
}

// eachPair calls f with all pairs of edges, and with others.
func eachPair(f func(a, b uint64)) {
	for _, a := range edges() {
		for _, b := range edges() {
			f(a, b)
		}
	}
	r := chance()
	for range 40000 {
		a := someBits(r)
		f(a, someBits(r))
		f(a, a^uint64(r.IntN(8))) // so near that much is taken away
		f(a, a^minus)
	}
}

// each calls f with all edges, and with other bits.
func each(f func(bits uint64)) {
	for _, bits := range edges() {
		f(bits)
	}
	r := chance()
	for range 40000 {
		f(someBits(r))
	}
}

// By bits alone, so that the tests do not lean on what they test.
func isNaN(bits uint64) bool    { return bits&^minus > inf }
func isInf(bits uint64) bool    { return bits&^minus == inf }
func isNought(bits uint64) bool { return bits&^minus == 0 }

// exact tells a finite real's number.
func exact(bits uint64) *big.Rat { return new(big.Rat).SetFloat64(math.Float64frombits(bits)) }

// nearest tells the bits of an exact number's nearest real; a nought's sign is handed in.
func nearest(x *big.Rat, sign uint64) uint64 {
	if x.Sign() == 0 {
		return sign
	}
	f, _ := x.Float64()
	return math.Float64bits(f)
}

// sum tells what Add must.
func sum(a, b uint64) uint64 {
	switch {
	case isNaN(a) || isNaN(b) || isInf(a) && isInf(b) && a != b:
		return api.NaN
	case isInf(a):
		return a
	case isInf(b):
		return b
	}
	sign := uint64(0)
	if a == minus && b == minus {
		sign = minus
	}
	return nearest(new(big.Rat).Add(exact(a), exact(b)), sign)
}

// product tells what Mul must.
func product(a, b uint64) uint64 {
	sign := (a ^ b) & minus
	switch {
	case isNaN(a) || isNaN(b) || isInf(a) && isNought(b) || isNought(a) && isInf(b):
		return api.NaN
	case isInf(a) || isInf(b):
		return inf | sign
	}
	return nearest(new(big.Rat).Mul(exact(a), exact(b)), sign)
}

// ratio tells what Div must.
func ratio(a, b uint64) uint64 {
	sign := (a ^ b) & minus
	switch {
	case isNaN(a) || isNaN(b) || isInf(a) && isInf(b) || isNought(a) && isNought(b):
		return api.NaN
	case isInf(a) || isNought(b):
		return inf | sign
	case isInf(b):
		return sign
	}
	return nearest(new(big.Rat).Quo(exact(a), exact(b)), sign)
}

// P3.1

func TestTheOneNaN(t *testing.T) {
	each(func(bits uint64) {
		want := bits
		if isNaN(bits) {
			want = api.NaN
		}
		if real.Canon(bits) != want || real.May(bits) != (bits == want) {
			t.Errorf("%x: %x, %v", bits, real.Canon(bits), real.May(bits))
		}
	})
	for i := range 64 {
		for _, bits := range []uint64{inf ^ 1<<i, api.NaN ^ 1<<i, minus | inf ^ 1<<i, 1 << i, ^uint64(0) << i} {
			if may := !isNaN(bits) || bits == api.NaN; real.May(bits) != may {
				t.Errorf("May(%x) is not %v", bits, may)
			}
		}
	}
}

func TestSumsAndProducts(t *testing.T) {
	eachPair(func(a, b uint64) {
		for _, x := range []struct {
			call      string
			got, want uint64
		}{
			{"Add", real.Add(a, b), sum(a, b)},
			{"Sub", real.Sub(a, b), sum(a, b^minus)},
			{"Mul", real.Mul(a, b), product(a, b)},
			{"Div", real.Div(a, b), ratio(a, b)},
		} {
			if x.got != x.want {
				t.Errorf("%s(%x, %x) = %x, not %x", x.call, a, b, x.got, x.want)
			}
		}
	})
}

// Where the greatest real ends: a half of its last bit more is infinite, less is not.
func TestTheGreatestReal(t *testing.T) {
	greatest, half, less := uint64(0x7fefffffffffffff), uint64(0x7c90000000000000), uint64(0x7c8fffffffffffff)
	for _, x := range []struct{ got, want uint64 }{
		{real.Add(greatest, half), inf},
		{real.Add(greatest, less), greatest},
		{real.Sub(greatest|minus, half), inf | minus},
		{real.Sub(greatest|minus, less), greatest | minus},
	} {
		if x.got != x.want {
			t.Errorf("%x, not %x", x.got, x.want)
		}
	}
}

func TestNeg(t *testing.T) {
	each(func(bits uint64) {
		want := bits ^ minus
		if isNaN(bits) {
			want = api.NaN
		}
		if got := real.Neg(bits); got != want {
			t.Errorf("Neg(%x) = %x", bits, got)
		}
	})
}

// P3.2

func TestCompared(t *testing.T) {
	eachPair(func(a, b uint64) {
		equal, less := false, false
		if !isNaN(a) && !isNaN(b) {
			order := place(a).Cmp(place(b))
			equal, less = order == 0, order < 0
		}
		if real.Equal(a, b) != equal || real.Less(a, b) != less {
			t.Errorf("%x and %x: equal %v, less %v", a, b, real.Equal(a, b), real.Less(a, b))
		}
	})
}

// place tells where a real stands among the others.
func place(bits uint64) *big.Int {
	n := new(big.Int).SetUint64(bits &^ minus)
	if bits&minus != 0 {
		n.Neg(n)
	}
	return n
}

// P3.3

// wholes tells whole numbers, among them those at which a float64's last bits fall off.
func wholes() []int64 {
	l := []int64{0, math.MinInt64, math.MaxInt64}
	for i := range 63 {
		for d := int64(-3); d <= 3; d++ {
			l = append(l, 1<<i+d, -1<<i+d, 1<<i+1<<i/2+d, 1<<62+1<<i+d, math.MaxInt64-1<<i+d)
		}
	}
	r := chance()
	for range 20000 {
		l = append(l, int64(r.Uint64())>>r.IntN(64))
	}
	return l
}

func TestFromInt(t *testing.T) {
	for _, n := range wholes() {
		if got, want := real.FromInt(n), nearest(new(big.Rat).SetInt64(n), 0); got != want {
			t.Errorf("FromInt(%d) = %x, not %x", n, got, want)
		}
	}
}

// checkToInt fails if a real's whole part is not told as it must be.
func checkToInt(t *testing.T, bits uint64) {
	want, ok := int64(0), false
	if !isNaN(bits) && !isInf(bits) {
		x := exact(bits)
		if whole := new(big.Int).Quo(x.Num(), x.Denom()); whole.IsInt64() {
			want, ok = whole.Int64(), true
		}
	}
	if got, fits := real.ToInt(bits); got != want || fits != ok {
		t.Errorf("ToInt(%x) = %d, %v, not %d, %v", bits, got, fits, want, ok)
	}
}

func TestToInt(t *testing.T) {
	each(func(bits uint64) { checkToInt(t, bits) })
	for _, n := range wholes() {
		for d := uint64(0); d < 3; d++ {
			checkToInt(t, real.FromInt(n)+d)
			checkToInt(t, real.FromInt(n)-d)
		}
	}
	for _, s := range []string{"0.0", "0.1", "0.5", "0.999999", "1.0", "1.5", "1.999999", "2.5", "99999999999999.9"} {
		checkToInt(t, lit(t, s))
		checkToInt(t, real.Neg(lit(t, s)))
	}
	for _, x := range []struct {
		bits uint64
		n    int64
		ok   bool
	}{
		{0x43e0000000000000, 0, false},
		{0x43dfffffffffffff, 1<<63 - 1024, true},
		{0xc3e0000000000000, -1 << 63, true},
		{0xc3e0000000000001, 0, false},
		{minus, 0, true},
		{1, 0, true},
		{1 | minus, 0, true},
		{api.NaN, 0, false},
		{inf, 0, false},
		{inf | minus, 0, false},
	} {
		if n, ok := real.ToInt(x.bits); n != x.n || ok != x.ok {
			t.Errorf("ToInt(%x) = %d, %v", x.bits, n, ok)
		}
	}
}

// P3.4

// isLiteral tells whether a text is a literal.
func isLiteral(s string) bool { return len(s) <= 16 && shape.MatchString(s) }

// checkParse fails if a text is not read as it must be.
func checkParse(t *testing.T, s string) {
	want, wantErr := uint64(0), api.ErrBytes
	if isLiteral(s) {
		x, _ := new(big.Rat).SetString(s)
		want, wantErr = nearest(x, 0), api.OK
	}
	if got, err := real.Parse(s); got != want || err != wantErr {
		t.Errorf("Parse(%q) = %x, %v, not %x, %v", s, got, err, want, wantErr)
	}
}

// eachText calls f with all texts up to a length of these bytes.
func eachText(bytes string, length int, f func(s string)) {
	var walk func(s string)
	walk = func(s string) {
		f(s)
		if len(s) == length {
			return
		}
		for i := range len(bytes) {
			walk(s + bytes[i:i+1])
		}
	}
	walk("")
}

func TestParse(t *testing.T) {
	eachText("019.-a ", 6, func(s string) { checkParse(t, s) })
	for ahead := range 20 {
		for behind := range 12 {
			for _, digit := range []string{"1", "9"} {
				checkParse(t, strings.Repeat(digit, ahead)+"."+strings.Repeat(digit, behind))
				checkParse(t, strings.Repeat(digit, ahead)+"."+strings.Repeat("0", behind))
				checkParse(t, "0"+strings.Repeat(digit, ahead)+"."+strings.Repeat(digit, behind))
				checkParse(t, strings.Repeat(digit, ahead+behind))
			}
		}
	}
	for _, s := range []string{
		"+1.0", "-1.0", "1.+0", "1.-0", "1e3", "1.0e3", "1.e", "1_0.0", "1.0_0", "0x1.0", "1,0", "1.0.", "1..0", ".1.0",
		"1.0\n", "\n1.0", "1.0\x00", "nan", "inf", "-inf", "Inf", "#3fd3333333333334", "\u0661.0", "1.\u0661", "1\u00b70",
		"00.0", "000000.0", "0.0000001", "99999999999999.9", "999999999.999999", "999999999999999.0", "100000000000000.0",
		"9007199254740993.0", strings.Repeat("1", 1000) + ".0", "1." + strings.Repeat("0", 1000), strings.Repeat(".", 16),
	} {
		checkParse(t, s)
	}
}

func TestParseOfEachByte(t *testing.T) {
	for _, s := range []string{"12.34", "0.000001", "123456789.123456"} {
		for c := range 256 {
			b := string([]byte{byte(c)})
			for i := range s {
				checkParse(t, s[:i]+b+s[i+1:])
				checkParse(t, s[:i]+b+s[i:])
			}
			checkParse(t, s+b)
		}
	}
}

// literal tells what Print must: all whole numbers that could be the digits are tried, exactly.
func literal(bits uint64) (string, api.Errno) {
	if isNaN(bits) || isInf(bits) || bits&minus != 0 {
		return "", api.ErrArg
	}
	scale := int64(1)
	for behind := 1; behind <= 6; behind++ {
		scale *= 10
		x := new(big.Rat).Mul(exact(bits), new(big.Rat).SetInt64(scale))
		near := new(big.Int).Quo(x.Num(), x.Denom())
		if !near.IsInt64() {
			continue
		}
		for n := near.Int64() - 2; n <= near.Int64()+2; n++ {
			if n >= 0 && n < 1e15 && nearest(big.NewRat(n, scale), 0) == bits {
				return fmt.Sprintf("%d.%0*d", n/scale, behind, n%scale), api.OK
			}
		}
	}
	return "", api.ErrArg
}

// text tells what Text must.
func text(bits uint64) string {
	switch {
	case isNaN(bits):
		return "nan"
	case bits == inf:
		return "inf"
	case bits == inf|minus:
		return "-inf"
	}
	if s, err := literal(bits &^ minus); err == api.OK {
		if bits&minus != 0 {
			return "-" + s
		}
		return s
	}
	return fmt.Sprintf("#%016x", bits)
}

// checkTold fails if a real is not told as it must be.
func checkTold(t *testing.T, bits uint64) {
	want, wantErr := literal(bits)
	if s, err := real.Print(bits); s != want || err != wantErr {
		t.Errorf("Print(%x) = %q, %v, not %q, %v", bits, s, err, want, wantErr)
	}
	if got, want := real.Text(bits), text(bits); got != want {
		t.Errorf("Text(%x) = %q, not %q", bits, got, want)
	}
}

// checkAround fails if a real, its neighbours or those with the other sign are not told as they must be.
func checkAround(t *testing.T, bits uint64) {
	for _, near := range []uint64{bits - 1, bits, bits + 1} {
		checkTold(t, near)
		checkTold(t, near^minus)
	}
}

// eachLiteral calls f with literals' digits and scales: small ones, the greatest, and others of all sizes.
func eachLiteral(f func(n, scale int64)) {
	r := chance()
	for scale := int64(10); scale <= 1e6; scale *= 10 {
		for n := range int64(1000) {
			f(n, scale)
			f(1e15-1-n, scale)
		}
		for power := int64(10); power < 1e15; power *= 10 {
			for d := int64(-2); d <= 2; d++ {
				f(power+d, scale)
			}
			for range 200 {
				f(r.Int64N(power), scale)
			}
		}
		for i := range 50 {
			for d := int64(-2); d <= 2; d++ {
				f(max(0, min(1<<i*scale+d, 1e15-1)), scale) // where reals get sparser
				f(max(0, min(1<<i*10+d, 1e15-1)), scale)
			}
		}
	}
}

func TestToldOfLiterals(t *testing.T) {
	eachLiteral(func(n, scale int64) { checkAround(t, nearest(big.NewRat(n, scale), 0)) })
}

func TestToldOfAll(t *testing.T) {
	each(func(bits uint64) { checkTold(t, bits) })
	r := chance()
	for i := range int64(64) {
		n := int64(1) << (i % 63)
		for range 50 {
			checkTold(t, real.FromInt(n+r.Int64N(n)))
			checkTold(t, real.Div(real.FromInt(r.Int64N(n)), real.FromInt(1+r.Int64N(1e6))))
		}
	}
}

// Beyond 15 digits there is no literal, however short the number is.
func TestToldAtTheBounds(t *testing.T) {
	for _, x := range []struct {
		bits uint64
		want string
		err  api.Errno
	}{
		{real.FromInt(1e14), "", api.ErrArg},
		{real.FromInt(1e14 - 1), "99999999999999.0", api.OK},
		{lit(t, "99999999999999.9"), "99999999999999.9", api.OK},
		{lit(t, "9999999999999.99"), "9999999999999.99", api.OK},
		{lit(t, "999999999.999999"), "999999999.999999", api.OK},
		{lit(t, "0.000001"), "0.000001", api.OK},
		{lit(t, "0.000001") - 1, "", api.ErrArg},
		{lit(t, "0.000001") + 1, "", api.ErrArg},
		{lit(t, "0.500000"), "0.5", api.OK},
		{lit(t, "100.000000"), "100.0", api.OK},
		{lit(t, "0.000000"), "0.0", api.OK},
		{lit(t, "1.050000"), "1.05", api.OK},
		{real.Div(real.FromInt(1), real.FromInt(1e7)), "", api.ErrArg},
		{real.Div(real.FromInt(1), real.FromInt(128)), "", api.ErrArg}, // seven digits behind the point
		{1, "", api.ErrArg},
		{minus, "", api.ErrArg},
		{real.Neg(real.FromInt(1)), "", api.ErrArg},
		{inf | minus, "", api.ErrArg},
		{api.NaN, "", api.ErrArg},
		{api.NaN | 1, "", api.ErrArg},
		{0x7fefffffffffffff, "", api.ErrArg},
	} {
		if s, err := real.Print(x.bits); s != x.want || err != x.err {
			t.Errorf("Print(%x) = %q, %v", x.bits, s, err)
		}
	}
}

func TestTextOfBits(t *testing.T) {
	for _, x := range []struct {
		bits uint64
		want string
	}{
		{1, "#0000000000000001"},
		{1 | minus, "#8000000000000001"},
		{0x7fefffffffffffff, "#7fefffffffffffff"},
		{0x0123456789abcdef, "#0123456789abcdef"},
		{0xfedcba9876543210, "#fedcba9876543210"},
		{real.FromInt(-1e14), "#c2d6bcc41e900000"},
		{real.Neg(real.FromInt(3)), "-3.0"},
		{minus, "-0.0"},
		{0, "0.0"},
		{inf, "inf"},
		{inf | minus, "-inf"},
		{0xfff0000000000001, "nan"},
	} {
		if got := real.Text(x.bits); got != x.want {
			t.Errorf("Text(%x) = %q", x.bits, got)
		}
	}
}

// P3.5

// checkLeadsBack fails if what was read is not printed as a literal of it with no more digits.
func checkLeadsBack(t *testing.T, s string) {
	bits, err := real.Parse(s)
	if err != api.OK {
		if isLiteral(s) {
			t.Errorf("Parse(%q): %v", s, err)
		}
		return
	}
	again, err := real.Print(bits)
	if err != api.OK || len(again) > len(s) || !strings.HasPrefix(s, again) || strings.Trim(s[len(again):], "0") != "" {
		t.Errorf("%q is printed as %q, %v", s, again, err)
	}
	if back, err := real.Parse(again); back != bits || err != api.OK {
		t.Errorf("%q is %x, %v; of %q it was %x", again, back, err, s, bits)
	}
}

func TestLiteralsLeadBack(t *testing.T) {
	eachText("019.", 8, func(s string) { checkLeadsBack(t, s) })
	eachLiteral(func(n, scale int64) {
		checkLeadsBack(t, fmt.Sprintf("%d.%0*d", n/scale, len(fmt.Sprint(scale))-1, n%scale))
	})
	each(func(bits uint64) {
		if s, err := real.Print(bits); err == api.OK {
			if back, err := real.Parse(s); back != bits || err != api.OK {
				t.Errorf("%x is printed as %q, which is %x, %v", bits, s, back, err)
			}
		}
	})
}

func TestTurnedAbout(t *testing.T) {
	eachPair(func(a, b uint64) {
		if real.Add(a, b) != real.Add(b, a) || real.Mul(a, b) != real.Mul(b, a) {
			t.Errorf("%x and %x turned about", a, b)
		}
		if real.Sub(a, b) != real.Add(a, real.Neg(b)) {
			t.Errorf("%x less %x", a, b)
		}
		if real.Neg(real.Neg(a)) != real.Canon(a) {
			t.Errorf("%x negated twice", a)
		}
	})
}

func TestOrder(t *testing.T) {
	for _, a := range edges() {
		for _, b := range edges() {
			ways := 0
			for _, holds := range []bool{real.Less(a, b), real.Less(b, a), real.Equal(a, b)} {
				if holds {
					ways++
				}
			}
			if one := !isNaN(a) && !isNaN(b); ways > 1 || (ways == 1) != one {
				t.Errorf("%x and %x compare in %d ways", a, b, ways)
			}
			for _, c := range edges() {
				if real.Less(a, b) && real.Less(b, c) && !real.Less(a, c) {
					t.Errorf("%x, %x, %x", a, b, c)
				}
			}
		}
	}
}

// small tells whether a whole number is of at most 2^53 in size.
func small(n int64) bool { return n >= -1<<53 && n <= 1<<53 }

func TestSmallWholesAreExact(t *testing.T) {
	last := int64(0)
	for _, n := range wholes() {
		if !small(n) {
			continue
		}
		if back, ok := real.ToInt(real.FromInt(n)); back != n || !ok {
			t.Errorf("%d leads back to %d, %v", n, back, ok)
		}
		if total := n + last; small(total) && real.Add(real.FromInt(n), real.FromInt(last)) != real.FromInt(total) {
			t.Errorf("%d and %d", n, last)
		}
		last = n
	}
}

func TestTextTellsApart(t *testing.T) {
	seen := map[string]uint64{}
	look := func(bits uint64) {
		bits = real.Canon(bits)
		s := real.Text(bits)
		if other, there := seen[s]; there && other != bits {
			t.Errorf("%x and %x are %q", other, bits, s)
		}
		seen[s] = bits
	}
	each(look)
	each(func(bits uint64) { look(bits + 1) })
	eachLiteral(func(n, scale int64) {
		bits := nearest(big.NewRat(n, scale), 0)
		look(bits)
		look(bits + 1)
		look(bits ^ minus)
	})
}

// All bits of NaN are one and the same, wherever they go in.
func TestOtherNaNsAreBroughtHome(t *testing.T) {
	one := real.FromInt(1)
	for _, x := range nans() {
		for _, got := range []uint64{
			real.Add(x, one), real.Add(one, x), real.Sub(x, one), real.Sub(one, x), real.Mul(x, one), real.Mul(one, x),
			real.Div(x, one), real.Div(one, x), real.Neg(x), real.Add(x, x), real.Sub(x, x), real.Mul(x, 0), real.Div(x, inf),
		} {
			if got != api.NaN {
				t.Errorf("of %x: %x", x, got)
			}
		}
		if real.Equal(x, x) || real.Equal(x, api.NaN) || real.Less(x, one) || real.Less(one, x) || real.Text(x) != "nan" {
			t.Errorf("%x is compared, or %q", x, real.Text(x))
		}
	}
}

func FuzzLiteral(f *testing.F) {
	for _, s := range []string{"0.1", ".5", "1.", "01.0", "1.0000000", "1234567890.123456", "99999999999999.9"} {
		f.Add(s)
	}
	f.Fuzz(func(t *testing.T, s string) {
		checkParse(t, s)
		checkLeadsBack(t, s)
	})
}

func FuzzReal(f *testing.F) {
	for _, bits := range edges() {
		f.Add(bits, bits^1)
	}
	f.Fuzz(func(t *testing.T, a, b uint64) {
		checkTold(t, a)
		checkToInt(t, a)
		if real.Add(a, b) != sum(a, b) || real.Mul(a, b) != product(a, b) || real.Div(a, b) != ratio(a, b) {
			t.Errorf("%x and %x", a, b)
		}
	})
}
