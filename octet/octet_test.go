package octet_test

import (
	"bytes"
	"encoding/binary"
	"encoding/hex"
	"math"
	"slices"
	"strconv"
	"strings"
	"testing"

	"assize/api"
	"assize/octet"
)

// edges are the numbers around which sizes and groups of bits change.
func edges() []uint64 {
	l := []uint64{0, 1, 2, 258, 300, math.MaxUint64}
	for shift := 1; shift < 64; shift++ {
		n := uint64(1) << shift
		l = append(l, n-1, n, n+1)
	}
	return l
}

// P1.1

func TestBytesTellsHighestFirst(t *testing.T) {
	for _, n := range edges() {
		whole := binary.BigEndian.AppendUint64(nil, n)
		for size := 1; size <= 8; size++ {
			got, err := octet.Bytes(n, size)
			if size < 8 && n >= 1<<(8*size) {
				if err != api.ErrArg || len(got) != 0 {
					t.Errorf("Bytes(%d, %d) = %v, %v", n, size, got, err)
				}
				continue
			}
			if err != api.OK || !bytes.Equal(got, whole[8-size:]) {
				t.Errorf("Bytes(%d, %d) = %v, %v", n, size, got, err)
			}
		}
	}
}

func TestBytesRefusesSizes(t *testing.T) {
	for _, size := range []int{0, -1, 9, 10, 64, math.MinInt, math.MaxInt, -8} {
		for _, n := range []uint64{0, 1, math.MaxUint64} {
			if got, err := octet.Bytes(n, size); err != api.ErrArg || len(got) != 0 {
				t.Errorf("Bytes(%d, %d) = %v, %v", n, size, got, err)
			}
		}
	}
}

func TestNumber(t *testing.T) {
	for _, x := range []struct {
		b    []byte
		want uint64
	}{
		{[]byte{0}, 0},
		{[]byte{255}, 255},
		{[]byte{1, 2}, 258},
		{[]byte{0, 0, 7}, 7},
		{bytes.Repeat([]byte{255}, 7), 1<<56 - 1},
		{bytes.Repeat([]byte{255}, 8), math.MaxUint64},
		{[]byte{128, 0, 0, 0, 0, 0, 0, 0}, 1 << 63},
	} {
		if got, err := octet.Number(x.b); err != api.OK || got != x.want {
			t.Errorf("Number(%v) = %d, %v", x.b, got, err)
		}
	}
	for _, b := range [][]byte{nil, {}, make([]byte, 9), bytes.Repeat([]byte{1}, 100)} {
		if got, err := octet.Number(b); err != api.ErrBytes || got != 0 {
			t.Errorf("Number(%v) = %d, %v", b, got, err)
		}
	}
}

// P1.2

func TestShort(t *testing.T) {
	for _, x := range []struct {
		n    uint64
		want []byte
	}{
		{0, []byte{0}},
		{1, []byte{1}},
		{127, []byte{127}},
		{128, []byte{128, 1}},
		{300, []byte{172, 2}},
		{16383, []byte{255, 127}},
		{16384, []byte{128, 128, 1}},
		{math.MaxUint64, []byte{255, 255, 255, 255, 255, 255, 255, 255, 255, 1}},
	} {
		if got := octet.Short(x.n); !bytes.Equal(got, x.want) {
			t.Errorf("Short(%d) = %v", x.n, got)
		}
	}
	for _, n := range edges() {
		if got, want := octet.Short(n), binary.AppendUvarint(nil, n); !bytes.Equal(got, want) {
			t.Errorf("Short(%d) = %v", n, got)
		}
	}
}

func TestReadShortLeavesWhatStandsBehind(t *testing.T) {
	for _, n := range edges() {
		b := octet.Short(n)
		for _, behind := range [][]byte{nil, {0}, {9}, {128}, {255, 255}} {
			got, size, err := octet.ReadShort(slices.Concat(b, behind))
			if err != api.OK || got != n || size != len(b) {
				t.Errorf("ReadShort(%v and %v) = %d, %d, %v", b, behind, got, size, err)
			}
		}
	}
}

func TestReadShortRefuses(t *testing.T) {
	nine := bytes.Repeat([]byte{255}, 9)
	for _, b := range [][]byte{
		nil,
		{},
		{128},
		{255, 255},
		{128, 0},                       // 0, longer
		{129, 0},                       // 1, longer
		{172, 130, 0},                  // 300, longer
		{128, 128, 128, 0, 1},          // 0, longer still
		slices.Concat(nine, []byte{2}), // 2^64 and more
		slices.Concat(nine, []byte{3}),
		slices.Concat(nine, []byte{127}),
		slices.Concat(nine, []byte{0}),
		slices.Concat(nine, []byte{129, 0}),
		slices.Concat(nine, []byte{128, 1}),
		slices.Concat(bytes.Repeat([]byte{128}, 9), []byte{2}),
		slices.Concat(bytes.Repeat([]byte{128}, 10), []byte{1}),
		slices.Concat(bytes.Repeat([]byte{128}, 1000), []byte{1}),
		slices.Concat(bytes.Repeat([]byte{128}, 1000), []byte{0}),
		bytes.Repeat([]byte{255}, 10),
		bytes.Repeat([]byte{255}, 11),
	} {
		if n, size, err := octet.ReadShort(b); err != api.ErrBytes || n != 0 || size != 0 {
			t.Errorf("ReadShort(%v) = %d, %d, %v", b, n, size, err)
		}
	}
}

func TestReadShortOfAllPairs(t *testing.T) {
	for first := range 256 {
		for second := range 256 {
			b := []byte{byte(first), byte(second)}
			n, size, err := octet.ReadShort(b)
			switch {
			case first < 128:
				if n != uint64(first) || size != 1 || err != api.OK {
					t.Errorf("ReadShort(%v) = %d, %d, %v", b, n, size, err)
				}
			case second == 0 || second >= 128:
				if n != 0 || size != 0 || err != api.ErrBytes {
					t.Errorf("ReadShort(%v) = %d, %d, %v", b, n, size, err)
				}
			default:
				if n != uint64(first-128+second*128) || size != 2 || err != api.OK {
					t.Errorf("ReadShort(%v) = %d, %d, %v", b, n, size, err)
				}
			}
		}
	}
}

// P1.3

func TestDec(t *testing.T) {
	numbers := []int{math.MinInt, math.MinInt + 1, math.MaxInt, math.MaxInt - 1, -5}
	for n := -1100; n <= 1100; n++ {
		numbers = append(numbers, n)
	}
	for _, n := range edges() {
		numbers = append(numbers, int(n), -int(n))
	}
	for _, n := range numbers {
		if got := octet.Dec(n); got != strconv.Itoa(n) {
			t.Errorf("Dec(%d) = %q", n, got)
		}
	}
}

func TestReadDec(t *testing.T) {
	for _, x := range []struct {
		s    string
		most int
		want int
		err  api.Errno
	}{
		{"0", 0, 0, api.OK},
		{"9", 9, 9, api.OK},
		{"10", 10, 10, api.OK},
		{"1234567890", math.MaxInt, 1234567890, api.OK},
		{"9223372036854775807", math.MaxInt, math.MaxInt, api.OK},
		{"9223372036854775806", math.MaxInt, math.MaxInt - 1, api.OK},
		{"9223372036854775807", math.MaxInt - 1, 0, api.ErrLong},
		{"9223372036854775807", 0, 0, api.ErrLong},
		{"9223372036854775808", math.MaxInt, 0, api.ErrBytes},
		{"9223372036854775808", 9, 0, api.ErrBytes},
		{"9223372036854775810", math.MaxInt, 0, api.ErrBytes},
		{"18446744073709551615", math.MaxInt, 0, api.ErrBytes},
		{"18446744073709551616", math.MaxInt, 0, api.ErrBytes},
		{"18446744073709551617", math.MaxInt, 0, api.ErrBytes},
		{strings.Repeat("1", 1000), math.MaxInt, 0, api.ErrBytes},
		{"1", 0, 0, api.ErrLong},
		{"10", 9, 0, api.ErrLong},
		{"", 9, 0, api.ErrBytes},
		{"07", 9, 0, api.ErrBytes},
		{"00", 9, 0, api.ErrBytes},
		{"-1", 9, 0, api.ErrBytes},
		{"-0", 9, 0, api.ErrBytes},
		{"+1", 9, 0, api.ErrBytes},
		{" 1", 9, 0, api.ErrBytes},
		{"1 ", 9, 0, api.ErrBytes},
		{"1_0", 99, 0, api.ErrBytes},
		{"0x1", 9, 0, api.ErrBytes},
		{"a", 99, 0, api.ErrBytes},
		{"1f", 99, 0, api.ErrBytes},
		{"1e3", 9999, 0, api.ErrBytes},
		{"/", 9, 0, api.ErrBytes},
		{":", 99, 0, api.ErrBytes},
		{"1\x00", 99, 0, api.ErrBytes},
		{"\u0661", 99, 0, api.ErrBytes},
		{"99x", 9, 0, api.ErrBytes}, // ahead of ErrLong
		{"1", -1, 0, api.ErrArg},
		{"0", math.MinInt, 0, api.ErrArg},
		{"", -1, 0, api.ErrArg}, // ahead of ErrBytes
		{"07", -1, 0, api.ErrArg},
	} {
		if got, err := octet.ReadDec(x.s, x.most); got != x.want || err != x.err {
			t.Errorf("ReadDec(%q, %d) = %d, %v", x.s, x.most, got, err)
		}
	}
}

func allBytes() []byte {
	var b []byte
	for c := range 256 {
		b = append(b, byte(c))
	}
	return b
}

func TestHex(t *testing.T) {
	if got := octet.Hex(nil); got != "" {
		t.Errorf("Hex of nothing = %q", got)
	}
	if got, want := octet.Hex(allBytes()), hex.EncodeToString(allBytes()); got != want {
		t.Errorf("Hex of all bytes = %q", got)
	}
}

func TestReadHex(t *testing.T) {
	if b, err := octet.ReadHex(""); len(b) != 0 || err != api.OK {
		t.Error("of no digits:", b, err)
	}
	if b, err := octet.ReadHex(hex.EncodeToString(allBytes())); !bytes.Equal(b, allBytes()) || err != api.OK {
		t.Error("of all bytes:", b, err)
	}
	for _, s := range []string{"0", "1", "fff", "FF", "fF", "Ff", "A0", "0g", "g0", "0x01", " 01", "01 ", "0 ", "-1", "00\x00\x00", "/0", "0:", "`a", "a\u00e9"} {
		if b, err := octet.ReadHex(s); len(b) != 0 || err != api.ErrBytes {
			t.Errorf("ReadHex(%q) = %v, %v", s, b, err)
		}
	}
}

func TestReadHexOfAllPairs(t *testing.T) {
	const digits = "0123456789abcdef"
	for high := range 256 {
		for low := range 256 {
			s := string([]byte{byte(high), byte(low)})
			h, l := strings.IndexByte(digits, byte(high)), strings.IndexByte(digits, byte(low))
			b, err := octet.ReadHex(s)
			if h < 0 || l < 0 {
				if len(b) != 0 || err != api.ErrBytes {
					t.Errorf("ReadHex(%q) = %v, %v", s, b, err)
				}
			} else if !bytes.Equal(b, []byte{byte(16*h + l)}) || err != api.OK {
				t.Errorf("ReadHex(%q) = %v, %v", s, b, err)
			}
		}
	}
}

// P1.4

// line has so many words of one letter.
func line(words int) string {
	return strings.TrimSuffix(strings.Repeat("a ", words), " ")
}

func TestWords(t *testing.T) {
	for _, s := range []string{"a", "a bc", "!", "~", "! ~", "SUBMIT 10 100 1", line(2), line(63), line(64), strings.Repeat("x", 100000)} {
		got, err := octet.Words(s)
		if !slices.Equal(got, strings.Split(s, " ")) || err != api.OK {
			t.Errorf("Words(%.80q) = %q, %v", s, got, err)
		}
	}
}

func TestWordsRefuses(t *testing.T) {
	for _, x := range []struct {
		s   string
		err api.Errno
	}{
		{"", api.ErrBytes},
		{" ", api.ErrBytes},
		{"  ", api.ErrBytes},
		{" a", api.ErrBytes},
		{"a ", api.ErrBytes},
		{"a  b", api.ErrBytes},
		{"a   b", api.ErrBytes},
		{"a\tb", api.ErrBytes},
		{"a\n", api.ErrBytes},
		{"a\r", api.ErrBytes},
		{"\x00", api.ErrBytes},
		{"\x1f", api.ErrBytes},
		{"\x7f", api.ErrBytes},
		{"a \xff", api.ErrBytes},
		{"\u00e9", api.ErrBytes},
		{"a\u00a0b", api.ErrBytes},
		{line(65), api.ErrLong},
		{line(1000), api.ErrLong},
		{line(64) + " ", api.ErrBytes}, // ahead of ErrLong
		{line(65) + " ", api.ErrBytes},
		{line(65) + "\x7f", api.ErrBytes},
		{" " + line(65), api.ErrBytes},
		{line(65) + "  a", api.ErrBytes},
	} {
		if got, err := octet.Words(x.s); len(got) != 0 || err != x.err {
			t.Errorf("Words(%q) = %q, %v", x.s, got, err)
		}
	}
}

func TestWordsOfEachByte(t *testing.T) {
	for c := range 256 {
		s := string([]byte{'a', byte(c), 'b'})
		want, wantErr := []string{s}, api.OK
		if c == 32 {
			want = []string{"a", "b"}
		}
		if c < 32 || c > 126 {
			want, wantErr = nil, api.ErrBytes
		}
		if got, err := octet.Words(s); !slices.Equal(got, want) || err != wantErr {
			t.Errorf("Words(%q) = %q, %v", s, got, err)
		}
	}
}

// P1.5

// same tells whether two lists of fields are the same, nil and empty ones too.
func same(a, b [][]byte) bool {
	return slices.EqualFunc(a, b, func(x, y []byte) bool { return bytes.Equal(x, y) })
}

func TestFields(t *testing.T) {
	for _, x := range []struct {
		l    [][]byte
		want []byte
	}{
		{nil, []byte{0}},
		{[][]byte{}, []byte{0}},
		{[][]byte{nil}, []byte{1, 0}},
		{[][]byte{{}, {}}, []byte{2, 0, 0}},
		{[][]byte{{7, 8}, nil}, []byte{2, 2, 7, 8, 0}},
		{[][]byte{nil, {0}}, []byte{2, 0, 1, 0}},
		{[][]byte{bytes.Repeat([]byte{5}, 127)}, slices.Concat([]byte{1, 127}, bytes.Repeat([]byte{5}, 127))},
		{[][]byte{bytes.Repeat([]byte{5}, 300), {1}}, slices.Concat([]byte{2, 172, 2}, bytes.Repeat([]byte{5}, 300), []byte{1, 1})},
		{make([][]byte, 4096), slices.Concat([]byte{128, 32}, make([]byte, 4096))},
	} {
		got, err := octet.Fields(x.l)
		if !bytes.Equal(got, x.want) || err != api.OK {
			t.Errorf("Fields(%v) = %v, %v", x.l, got, err)
		}
		if back, err := octet.ReadFields(x.want); !same(back, x.l) || err != api.OK {
			t.Errorf("ReadFields(%v) = %v, %v", x.want, back, err)
		}
	}
}

func TestFieldsAreAtMostSoMany(t *testing.T) {
	for _, n := range []int{4097, 5000, 100000} {
		if b, err := octet.Fields(make([][]byte, n)); len(b) != 0 || err != api.ErrLong {
			t.Errorf("Fields of %d: %d bytes, %v", n, len(b), err)
		}
	}
}

// fill has fields whose text has just so many bytes, the first of them small ones.
func fill(size, small int) [][]byte {
	l := make([][]byte, small, small+1)
	size -= len(octet.Short(uint64(small + 1)))
	for i := range l {
		l[i] = []byte{byte(i)}
		size -= 2
	}
	length := size
	for len(octet.Short(uint64(length)))+length > size {
		length--
	}
	return append(l, make([]byte, length))
}

func TestFieldsTextIsAtMostSoLong(t *testing.T) {
	for _, small := range []int{0, 1, 127, 4095} {
		b, err := octet.Fields(fill(api.MaxBytes, small))
		if len(b) != api.MaxBytes || err != api.OK {
			t.Fatalf("small %d: %d bytes, %v", small, len(b), err)
		}
		if l, err := octet.ReadFields(b); !same(l, fill(api.MaxBytes, small)) || err != api.OK {
			t.Errorf("small %d: %d fields read, %v", small, len(l), err)
		}
		over := fill(api.MaxBytes+1, small)
		if b, err := octet.Fields(over); len(b) != 0 || err != api.ErrLong {
			t.Errorf("small %d, one more: %d bytes, %v", small, len(b), err)
		}
	}
	// The text's heads count too: no field stands behind the one that fills it.
	full := fill(api.MaxBytes, 0)
	for _, more := range [][]byte{nil, {1}, make([]byte, api.MaxBytes)} {
		if b, err := octet.Fields(append(full[:1:1], more)); len(b) != 0 || err != api.ErrLong {
			t.Errorf("full and %d more: %d bytes, %v", len(more), len(b), err)
		}
	}
	shared := make([]byte, 1<<20)
	if b, err := octet.Fields(slices.Repeat([][]byte{shared}, 4096)); len(b) != 0 || err != api.ErrLong {
		t.Errorf("great fields: %d bytes, %v", len(b), err)
	}
}

func TestReadFieldsRefuses(t *testing.T) {
	for _, b := range [][]byte{
		nil,
		{},
		{1},
		{0, 0},
		{2, 2, 7, 8},
		{2, 2, 7, 8, 0, 0},
		{2, 2, 7},
		{2, 2, 7, 8, 1},
		{128, 0},    // no fields, longer
		{129, 0, 0}, // one field, longer
		{1, 128, 0}, // a length, longer
		{1, 129, 0, 5},
		{1, 128},
		{128},
		slices.Concat([]byte{1}, octet.Short(math.MaxUint64)),
		slices.Concat([]byte{1}, octet.Short(math.MaxUint64-1), []byte{1, 2}),
		slices.Concat([]byte{1}, octet.Short(1<<63), []byte{1, 2}),
		slices.Concat([]byte{1}, octet.Short(1<<32), []byte{1, 2}),
		octet.Short(math.MaxUint64),
		slices.Concat(octet.Short(1<<63), []byte{0, 0}),
		bytes.Repeat([]byte{255}, 11),
	} {
		if l, err := octet.ReadFields(b); len(l) != 0 || err != api.ErrBytes {
			t.Errorf("ReadFields(%v) = %v, %v", b, l, err)
		}
	}
}

// What Fields refuses to tell is not read: it could not be told again (P1.6).
func TestReadFieldsKeepsTheBounds(t *testing.T) {
	many := slices.Concat(octet.Short(4097), make([]byte, 4097))
	if l, err := octet.ReadFields(many); len(l) != 0 || err != api.ErrBytes {
		t.Errorf("4097 fields: %d read, %v", len(l), err)
	}
	for size := api.MaxBytes - 5; size <= api.MaxBytes+5; size++ {
		length := uint64(size - 4)
		b := slices.Concat([]byte{1}, octet.Short(length), make([]byte, length))
		want, wantErr := 1, api.OK
		if len(b) > api.MaxBytes {
			want, wantErr = 0, api.ErrBytes
		}
		if l, err := octet.ReadFields(b); len(l) != want || err != wantErr {
			t.Errorf("%d bytes: %d read, %v", len(b), len(l), err)
		}
	}
}

func TestReadFieldsOfNoBeginning(t *testing.T) {
	whole, _ := octet.Fields([][]byte{{7, 8}, nil, bytes.Repeat([]byte{1}, 200), {0}})
	for n := range whole {
		if l, err := octet.ReadFields(whole[:n]); len(l) != 0 || err != api.ErrBytes {
			t.Errorf("%d of %d bytes: %v, %v", n, len(whole), l, err)
		}
	}
	for c := range 256 {
		if l, err := octet.ReadFields(append(whole[:len(whole):len(whole)], byte(c))); len(l) != 0 || err != api.ErrBytes {
			t.Errorf("with %d behind: %v, %v", c, l, err)
		}
	}
}

// P1.6

func TestWhatIsToldIsRead(t *testing.T) {
	for _, n := range edges() {
		for size := 1; size <= 8; size++ {
			if b, err := octet.Bytes(n, size); err == api.OK {
				if got, err := octet.Number(b); got != n || err != api.OK {
					t.Errorf("Number of Bytes(%d, %d) = %d, %v", n, size, got, err)
				}
			}
		}
		if int(n) >= 0 {
			if got, err := octet.ReadDec(octet.Dec(int(n)), int(n)); got != int(n) || err != api.OK {
				t.Errorf("ReadDec of Dec(%d) = %d, %v", n, got, err)
			}
		}
	}
	if got, err := octet.ReadHex(octet.Hex(allBytes())); !bytes.Equal(got, allBytes()) || err != api.OK {
		t.Error("ReadHex of Hex:", got, err)
	}
}

// checkReadIsTold fails if something is read of b that is not told again as the same bytes.
func checkReadIsTold(t *testing.T, b []byte) {
	if n, err := octet.Number(b); err == api.OK {
		if again, err := octet.Bytes(n, len(b)); !bytes.Equal(again, b) || err != api.OK {
			t.Errorf("Number(%v) is told as %v, %v", b, again, err)
		}
	}
	if n, size, err := octet.ReadShort(b); err == api.OK {
		if again := octet.Short(n); !bytes.Equal(again, b[:size]) {
			t.Errorf("ReadShort(%v) is told as %v", b, again)
		}
	}
	if n, err := octet.ReadDec(string(b), math.MaxInt); err == api.OK {
		if again := octet.Dec(n); again != string(b) {
			t.Errorf("ReadDec(%q) is told as %q", b, again)
		}
	}
	if h, err := octet.ReadHex(string(b)); err == api.OK {
		if again := octet.Hex(h); again != string(b) {
			t.Errorf("ReadHex(%q) is told as %q", b, again)
		}
	}
	if l, err := octet.Words(string(b)); err == api.OK {
		if again := strings.Join(l, " "); again != string(b) {
			t.Errorf("Words(%q) are put together as %q", b, again)
		}
	}
	if l, err := octet.ReadFields(b); err == api.OK {
		if again, err := octet.Fields(l); !bytes.Equal(again, b) || err != api.OK {
			t.Errorf("ReadFields(%v) is told as %v, %v", b, again, err)
		}
	}
}

// eachText calls f with all texts up to a length of bytes that matter here.
func eachText(length int, f func([]byte)) {
	matter := []byte{0, 1, 2, 32, '0', '1', '9', 'a', 'f', 127, 128, 255}
	var walk func([]byte)
	walk = func(b []byte) {
		f(b)
		if len(b) == length {
			return
		}
		for _, c := range matter {
			walk(append(b[:len(b):len(b)], c))
		}
	}
	walk(nil)
}

func TestWhatIsReadIsTold(t *testing.T) {
	eachText(5, func(b []byte) { checkReadIsTold(t, b) })
	checkReadIsTold(t, slices.Concat(octet.Short(4096), make([]byte, 4096)))
	checkReadIsTold(t, slices.Concat(octet.Short(4097), make([]byte, 4097)))
	checkReadIsTold(t, slices.Concat([]byte{1}, octet.Short(api.MaxBytes), make([]byte, api.MaxBytes)))
}

func FuzzWhatIsReadIsTold(f *testing.F) {
	for _, s := range []string{"", "0", "07", "9223372036854775807", "01ff", "a bc", "\x02\x02\x07\x08\x00", "\xac\x02\x09"} {
		f.Add([]byte(s))
	}
	f.Fuzz(func(t *testing.T, b []byte) { checkReadIsTold(t, b) })
}

// DOC.md, rules 3 and 4

// roomy has b's bytes with spare room behind them, which holds marks.
func roomy(b []byte) []byte {
	room := bytes.Repeat([]byte{0xee}, len(b)+64)
	copy(room, b)
	return room[:len(b)]
}

func TestNothingHandedInIsChanged(t *testing.T) {
	for _, b := range [][]byte{{}, {1, 2}, {172, 2, 9}, {2, 2, 7, 8, 0}, {128}, {1, 3, 1}, []byte("01ff")} {
		in := roomy(b)
		before := slices.Clone(in[:cap(in)])
		octet.Number(in)
		octet.ReadShort(in)
		octet.Hex(in)
		octet.ReadFields(in)
		list := [][]byte{in, in[:0], nil, {0xdd}}
		octet.Fields(list[:3])
		if !bytes.Equal(in[:cap(in)], before) || !bytes.Equal(list[3], []byte{0xdd}) {
			t.Errorf("of %v there is %v", b, in[:cap(in)])
		}
	}
}

// Spare room is not read: a number or a field that goes on there is not there.
func TestSpareRoomIsNotRead(t *testing.T) {
	whole := []byte{2, 2, 7, 8, 0}
	if l, err := octet.ReadFields(whole[:4]); len(l) != 0 || err != api.ErrBytes {
		t.Error(l, err)
	}
	if n, size, err := octet.ReadShort([]byte{172, 2}[:1]); n != 0 || size != 0 || err != api.ErrBytes {
		t.Error(n, size, err)
	}
}

func TestAnswersAreNewMemory(t *testing.T) {
	in := roomy([]byte{3, 2, 7, 8, 0, 1, 9})
	l, err := octet.ReadFields(in)
	if err != api.OK {
		t.Fatal(err)
	}
	text, err := octet.Fields(l)
	if err != api.OK {
		t.Fatal(err)
	}
	wipe(in)
	if !same(l, [][]byte{{7, 8}, nil, {9}}) {
		t.Error("fields are what was handed in:", l)
	}
	for i := range l {
		others := append(slices.Clone(l[:i]), l[i+1:]...)
		before := make([][]byte, len(others))
		for k, other := range others {
			before[k] = slices.Clone(other)
		}
		wipe(l[i])
		if !same(others, before) {
			t.Error("two fields share memory:", l)
		}
	}
	if !bytes.Equal(text, []byte{3, 2, 7, 8, 0, 1, 9}) {
		t.Error("a text is what was handed in:", text)
	}
	first, _ := octet.ReadHex("0102")
	second, _ := octet.ReadHex("0102")
	wipe(first)
	if !bytes.Equal(second, []byte{1, 2}) {
		t.Error("two answers share memory:", second)
	}
}

// wipe writes over a slice and its spare room.
func wipe(b []byte) {
	b = b[:cap(b)]
	for i := range b {
		b[i] = 0xaa
	}
}
