package frame_test

import (
	"bytes"
	"math"
	"slices"
	"testing"
	"unsafe"

	"assize/api"
	"assize/frame"
)

// ramp tells so many bytes that rise by a step.
func ramp(n int, first, step byte) []byte {
	b := make([]byte, n)
	for i := range b {
		b[i] = first + byte(i)*step
	}
	return b
}

// run tells frames of records, one behind the other.
func run(t testing.TB, records ...[]byte) []byte {
	t.Helper()
	var b []byte
	for _, record := range records {
		b = append(b, framed(t, record...)...)
	}
	return b
}

// P20.1

func TestKnownChecks(t *testing.T) {
	for _, x := range []struct {
		b    []byte
		want uint32
	}{
		{[]byte{}, 0}, {[]byte("a"), 0xC1D04330}, {[]byte("abc"), 0x364B3FB7}, {[]byte("message digest"), 0x02BD79D0},
		{ramp(32, 0, 0), 0x8A9136AA}, {ramp(32, 255, 0), 0x62A8AB43}, {ramp(32, 0, 1), 0x46DD794E}, {ramp(32, 31, 255), 0x113FDB5C},
	} {
		if got := frame.Check(x.b); got != x.want {
			t.Errorf("Check of %v: %x, not %x", x.b, got, x.want)
		}
	}
}

func TestFramesOfEachLength(t *testing.T) {
	for c := range 256 {
		againstSecondWriter(t, []byte{byte(c)})
	}
	for n := range 700 {
		againstSecondWriter(t, ramp(n, byte(n), 7))
	}
	for _, n := range []int{4095, 32767, 32768, 65534, 65535, 65536, 65537, 65538, 131072, 1 << 20} {
		againstSecondWriter(t, ramp(n, 3, 5))
	}
}

func TestSize(t *testing.T) {
	for n := range 65537 {
		if got := frame.Size(n); got != n+12 {
			t.Fatalf("Size(%d) = %d", n, got)
		}
	}
	for _, n := range []int{-1, -12, -13, 65537, 65548, 1 << 32, math.MinInt, math.MaxInt, math.MaxInt - 11} {
		if got := frame.Size(n); got != 0 {
			t.Errorf("Size(%d) = %d", n, got)
		}
	}
}

// P20.2

func TestRecordsOfEachLength(t *testing.T) {
	for _, n := range []int{0, 1, 2, 3, 4, 7, 8, 9, 11, 12, 13, 255, 256, 257, 65535, 65536} {
		record := ramp(n, 9, 3)
		f := framed(t, record...)
		checkOne(t, f, record)
		checkScan(t, f, [][]byte{record}, n+12, api.Whole)
		checkNone(t, f[:len(f)-1])
		checkScan(t, f[:len(f)-1], nil, 0, api.Torn)
		checkNone(t, append(slices.Clone(f), 0))
		checkScan(t, append(slices.Clone(f), 0), [][]byte{record}, n+12, api.Torn)
		checkNone(t, append(slices.Clone(f), f...))
		checkScan(t, append(slices.Clone(f), f...), [][]byte{record, record}, 2*n+24, api.Whole)
	}
	checkNone(t, nil)
	checkNone(t, []byte{})
	checkScan(t, []byte{}, nil, 0, api.Whole)
}

// A frame of more bytes than a record may have is bad, even where its check holds, and whether its bytes are there or not.
func TestLengths(t *testing.T) {
	long := secondFrame(make([]byte, most+1))
	for _, n := range []int{8, 9, 12, len(long) - 1, len(long)} {
		checkScan(t, long[:n], nil, 0, api.Bad)
		checkNone(t, long[:n])
	}
	for _, x := range []struct {
		b    []byte
		want int
	}{
		{[]byte{0, 1, 0, 0, 255, 254, 255, 255}, api.Torn}, // 65,536
		{[]byte{0, 1, 0, 1, 255, 254, 255, 254}, api.Bad},
		{[]byte{0, 2, 0, 0, 255, 253, 255, 255}, api.Bad},
		{[]byte{1, 0, 0, 0, 254, 255, 255, 255}, api.Bad},
		{[]byte{128, 0, 0, 0, 127, 255, 255, 255}, api.Bad},
		{[]byte{255, 255, 255, 255, 0, 0, 0, 0}, api.Bad}, // 2^32 - 1: as 32 bits, -1
		{[]byte{255, 255, 255, 244, 0, 0, 0, 11, 1, 2, 3, 4}, api.Bad},
		{[]byte{0, 0, 0, 0, 255, 255, 255, 255}, api.Torn},
		{[]byte{0, 0, 0, 0, 255, 255, 255, 255, 0, 0, 0}, api.Torn},
		{[]byte{0, 0, 0, 0, 255, 255, 255, 255, 1, 1, 1}, api.Torn}, // of a check that is not all there nothing is told
		{[]byte{0, 0, 0, 0, 255, 255, 255, 255, 0, 0, 0, 1}, api.Bad},
		{make([]byte, 8), api.Bad},
		{make([]byte, 100), api.Bad},
	} {
		checkScan(t, x.b, nil, 0, x.want)
		checkNone(t, x.b)
		behind := append(framed(t, 5, 6), x.b...)
		checkScan(t, behind, [][]byte{{5, 6}}, 14, x.want)
		checkNone(t, behind)
	}
	checkOne(t, []byte{0, 0, 0, 0, 255, 255, 255, 255, 0, 0, 0, 0}, nil)
}

// Of fewer than eight bytes, whatever they are, it is told that they are torn.
func TestFewBytes(t *testing.T) {
	for n := 1; n < 8; n++ {
		for _, c := range []byte{0, 1, 127, 128, 254, 255} {
			b := ramp(n, c, 0)
			checkScan(t, b, nil, 0, api.Torn)
			checkNone(t, b)
			checkScan(t, append(framed(t), b...), [][]byte{{}}, 12, api.Torn)
		}
	}
}

// What stands behind what is bad is not looked at, though it may be a frame.
func TestNothingIsReadBehindWhatIsBad(t *testing.T) {
	one, two := framed(t, 1), framed(t, 2, 2)
	bad := slices.Clone(two)
	bad[9] ^= 1
	checkScan(t, slices.Concat(one, bad, one), [][]byte{{1}}, 13, api.Bad)
	checkScan(t, slices.Concat(bad, one), nil, 0, api.Bad)
	checkScan(t, slices.Concat(one, []byte{0}, two), [][]byte{{1}}, 13, api.Bad)
	checkScan(t, slices.Concat(one, two[1:], two), [][]byte{{1}}, 13, api.Bad)
}

// All bytes of few kinds, up to a frame without a record and a little more.
func TestAllShortBytes(t *testing.T) {
	var ends [3]int
	var grow func(b []byte)
	grow = func(b []byte) {
		records, _, how := againstSecond(t, b)
		ends[how] += 1 + len(records)
		if len(b) == 13 {
			return
		}
		for _, c := range []byte{0, 255, 1, 254}[:max(2, 4-len(b)/3)] {
			grow(append(b, c))
		}
	}
	grow(nil)
	if ends[api.Whole] < 2 || ends[api.Torn] < 100 || ends[api.Bad] < 1000 {
		t.Error(ends)
	}
}

// P20.3

// someRuns tells lists of few records, of lengths at which frames differ.
func someRuns() [][][]byte {
	return [][][]byte{
		{{}}, {{7}}, {{}, {}}, {{1, 2, 3}, {}, {4}}, {{0, 0, 0, 0}, {255, 255, 255, 255}},
		{{0, 0, 0, 1, 255, 255, 255, 254, 7}, {0}}, {ramp(40, 1, 1), ramp(300, 7, 9), ramp(12, 0, 0)},
	}
}

func TestEachCut(t *testing.T) {
	for _, records := range someRuns() {
		b := run(t, records...)
		whole, size := 0, 0
		for n := range len(b) + 1 {
			if whole < len(records) && n == size+len(records[whole])+12 {
				size = n
				whole++
			}
			how := api.Torn
			if n == size {
				how = api.Whole
			}
			checkScan(t, b[:n], records[:whole], size, how)
		}
		if whole != len(records) {
			t.Fatal("a run has too many bytes", whole)
		}
	}
}

func TestEachBitTurned(t *testing.T) {
	for _, records := range someRuns() {
		b := run(t, records...)
		for n := range len(b) + 1 {
			if len(b) > 100 && n < len(b)-5 { // of the long run not each cut
				continue
			}
			for place := range n {
				for bit := range 8 {
					checkTurned(t, records, b[:n], place, bit)
				}
			}
		}
	}
}

// checkTurned fails if a bit of records' frames, of which the last one may be cut, is turned, and another thing is told than the chapter says.
func checkTurned(t testing.TB, records [][]byte, b []byte, place, bit int) {
	t.Helper()
	which, at := 0, 0
	for place >= at+len(records[which])+12 {
		at += len(records[which]) + 12
		which++
	}
	how := api.Bad
	there := len(b) - at
	if there < len(records[which])+12 && (place-at >= 8 || there < 8) {
		how = api.Torn
	}
	turned := slices.Clone(b)
	turned[place] ^= 1 << bit
	checkScan(t, turned, records[:which], at, how)
	checkNone(t, turned)
}

// Each bit of the greatest frame's numbers, and some of its record's.
func TestTheGreatestFrameTurned(t *testing.T) {
	f := framed(t, ramp(65536, 5, 11)...)
	b := append(framed(t, 1), f...)
	for place := 0; place < len(f); place++ {
		if place == 20 {
			place = len(f) - 20
		}
		for bit := range 8 {
			b[13+place] ^= 1 << bit
			checkScan(t, b, [][]byte{{1}}, 13, api.Bad)
			b[13+place] ^= 1 << bit
		}
	}
	checkScan(t, b, [][]byte{{1}, ramp(65536, 5, 11)}, 13+65548, api.Whole)
}

func TestManyFrames(t *testing.T) {
	const many = 100000
	records := make([][]byte, many)
	var b []byte
	for i := range records {
		records[i] = ramp(i%5, byte(i), 1)
		b = append(b, secondFrame(records[i])...)
	}
	checkScan(t, b, records, len(b), api.Whole)
	checkScan(t, b[:len(b)-1], records[:many-1], len(b)-len(secondFrame(records[many-1])), api.Torn)
}

// Rule 4: what is handed in is not changed, what is told is not shared, and no spare room is written or read.

// memory tells where bytes stand, with their spare room.
func memory(b []byte) (uintptr, uintptr) {
	low := uintptr(unsafe.Pointer(unsafe.SliceData(b)))
	return low, low + uintptr(cap(b))
}

// checkApart fails if two of these bytes have memory in common.
func checkApart(t testing.TB, l ...[]byte) {
	t.Helper()
	for i, a := range l {
		for _, b := range l[:i] {
			low, high := memory(a)
			from, to := memory(b)
			if max(low, from) < min(high, to) {
				t.Fatalf("%v and %v share memory", a, b)
			}
		}
	}
}

func TestMemoryOfItsOwn(t *testing.T) {
	records := [][]byte{{1, 2, 3}, {}, {4}, {5, 6}}
	b := run(t, records...)
	kept := slices.Clone(b)
	l, _, _ := frame.Scan(b)
	again, _, _ := frame.Scan(b)
	checkApart(t, slices.Concat([][]byte{b}, l, again)...)
	one, _ := frame.One(b[:15])
	none, _ := frame.One(b[15:27])
	checkApart(t, b, one, none)
	for _, answer := range slices.Concat([][]byte{one, none}, l[:cap(l)]) {
		for i := range answer[:cap(answer)] {
			answer[:cap(answer)][i] = 9
		}
	}
	if !bytes.Equal(b, kept) || !sameRecords(again, records) {
		t.Error(b, again)
	}
	clear(b)
	if !sameRecords(again, records) {
		t.Error("what was handed in is shared", again)
	}
}

func TestFrameOfItsOwn(t *testing.T) {
	room := []byte{1, 2, 3, 4, 5, 6, 7, 8, 9, 10, 11, 12, 13, 14, 15, 16, 17, 18, 19, 20}
	kept := slices.Clone(room)
	f := framed(t, 1, 2, 3)
	g, err := frame.Frame(room[:3])
	h, _ := frame.Frame(room[:3])
	if err != api.OK || !bytes.Equal(f, g) || !bytes.Equal(room, kept) {
		t.Error(f, g, room)
	}
	checkApart(t, room, g, h)
	frame.Check(room[:3])
	clear(room)
	if !bytes.Equal(f, g) {
		t.Error("what was handed in is shared", g)
	}
}

func TestSpareRoomIsNotRead(t *testing.T) {
	f := framed(t, 1, 2, 3)
	b := slices.Concat(f, f)
	for n := range b {
		want, size := [][]byte(nil), 0
		if n >= len(f) {
			want, size = [][]byte{{1, 2, 3}}, len(f)
		}
		how := api.Torn
		if n == size {
			how = api.Whole
		}
		checkScan(t, b[:n], want, size, how)
		if n == len(f) {
			checkOne(t, b[:n], []byte{1, 2, 3})
		} else {
			checkNone(t, b[:n])
		}
	}
	if !bytes.Equal(b, slices.Concat(f, f)) {
		t.Error("what was handed in was changed", b)
	}
}
