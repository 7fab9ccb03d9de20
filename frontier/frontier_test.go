package frontier_test

import (
	"bytes"
	"math"
	"runtime"
	"slices"
	"testing"

	"assize/api"
	"assize/code"
	"assize/frontier"
)

// most is how many steps, and how many levels, there may be.
const most = 1048577

// checkVerdictNotWritten fails if a verdict is written.
func checkVerdictNotWritten(t testing.TB, v api.Verdict) {
	t.Helper()
	if b, err := frontier.Verdict(v); len(b) > 0 || err != api.ErrArg {
		t.Fatalf("Verdict(%s) = %s, %v", short(v), short(b), err)
	}
}

// checkNotWritten fails if a frontier is written.
func checkNotWritten(t testing.TB, f api.Frontier) {
	t.Helper()
	if b, err := frontier.Bytes(f); len(b) > 0 || err != api.ErrArg {
		t.Fatalf("Bytes(%s) = %s, %v", short(f), short(b), err)
	}
}

// full tells a frontier without a verdict in which all is told.
func full() api.Frontier {
	return api.Frontier{Path: []int{0, 15, 3}, Back: []int{1, 65535, 300}, Asleep: []int{0, 16384, 127},
		Done: 128, Played: 129, Charged: 1 << 21}
}

// open tells a frontier without a verdict, of one level.
func open(path, back, asleep, done, played, charged int) api.Frontier {
	return api.Frontier{Path: []int{path}, Back: []int{back}, Asleep: []int{asleep}, Done: done, Played: played, Charged: charged}
}

// P17.1: Verdict, ReadVerdict

func TestVerdictsOneByOne(t *testing.T) {
	checkVerdict(t, api.Verdict{}, 0)
	checkVerdict(t, safe(), 1)
	checkVerdict(t, spent(), 3)
	checkVerdict(t, fails(api.Deadlock, -1), 2, 4, 0, 0)
	checkVerdict(t, fails(api.Failed, 0, 0), 2, 2, 1, 1, 0)
	checkVerdict(t, fails(api.Trapped, 15, 15, 0, 7), 2, 3, 16, 3, 15, 0, 7)
	checkVerdict(t, fails(api.Overrun, 3, times(300, 3)...), append([]byte{2, 5, 4, 172, 2}, bytes.Repeat([]byte{3}, 300)...)...)
	checkVerdict(t, api.Verdict{Kind: api.Safe, Schedule: []int{}}, 1)
}

// All verdicts of few numbers: each number at its edges, and past them.
func TestSmallVerdicts(t *testing.T) {
	schedules := [][]int{nil, {}, {0}, {15}, {16}, {-1}, {0, 0}, {1, 15}, {3, 16}, {-1, 3}, {math.MinInt}, {math.MaxInt, 0}, times(128, 15)}
	far := []int{math.MinInt, 256 + api.Deadlock, 1<<32 + api.Deadlock, math.MaxInt}
	written := 0
	for _, kind := range append([]int{-1, 0, 1, 2, 3, 4, 258}, far...) {
		for _, how := range append([]int{-1, 0, 1, 2, 3, 4, 5, 6}, far...) {
			for _, who := range append([]int{-2, -1, 0, 1, 15, 16}, far...) {
				for _, schedule := range schedules {
					if againstSecondVerdictWriter(t, api.Verdict{Kind: kind, How: how, Who: who, Schedule: schedule}) {
						written++
					}
				}
			}
		}
	}
	if written != 3*2+7*(3*3+1) {
		t.Error(written)
	}
}

func TestLongestSchedules(t *testing.T) {
	b := append([]byte{2, 2, 1, 0x81, 0x80, 0x40}, bytes.Repeat([]byte{9}, most)...)
	checkVerdict(t, fails(api.Failed, 0, times(most, 9)...), b...)
	checkVerdictNotWritten(t, fails(api.Failed, 0, times(most+1, 9)...))
	checkVerdictNotWritten(t, fails(api.Deadlock, -1, times(2*most, 9)...))
	b = append(b, 9)
	checkVerdictNotRead(t, b)
	b[3]++
	checkVerdictNotRead(t, b)
	checkNotWritten(t, api.Frontier{Verdict: fails(api.Failed, 0, times(most+1, 9)...)})
	last := times(most, 0)
	last[most-1] = 16
	checkVerdictNotWritten(t, fails(api.Overrun, 0, last...))
}

func TestVerdictsThatAreNotRead(t *testing.T) {
	for _, b := range [][]byte{
		nil, {}, {4}, {5}, {128}, {129}, {130, 0}, {127}, {128, 1}, {0, 0}, {1, 0}, {1, 1}, {3, 0}, {2}, {2, 4}, {2, 4, 0}, {2, 4, 0, 1},
		{2, 4, 1, 0}, {2, 4, 16, 0}, {2, 3, 0, 0}, {2, 2, 0, 0}, {2, 5, 0, 0}, {2, 2, 17, 0}, {2, 3, 17, 0}, {2, 5, 17, 0}, {2, 1, 1, 0},
		{2, 6, 1, 0}, {2, 0, 0, 0}, {2, 4, 0, 1, 16}, {2, 4, 0, 2, 0}, {2, 4, 0, 2, 16, 0}, {2, 4, 0, 0, 0}, {2, 4, 0, 1, 0, 0},
		{2, 4, 0, 1, 128}, {2, 4, 0, 1, 128, 0}, {2, 4, 0, 129, 0, 3}, {2, 4, 128, 0, 0}, {2, 132, 0, 0, 0},
	} {
		checkVerdictNotRead(t, b)
	}
}

// P17.1: Bytes, Read

func TestFrontiersOneByOne(t *testing.T) {
	checkFrontier(t, open(0, 0, 0, 0, 0, 0), 0, 0, 0, 1, 0, 0, 0, 0)
	checkFrontier(t, open(1, 2, 3, 4, 5, 6), 0, 5, 6, 1, 1, 2, 3, 4)
	checkFrontier(t, full(), 0, 129, 1, 128, 128, 128, 1, 3, 0, 1, 0, 15, 255, 255, 3, 128, 128, 1, 3, 172, 2, 127, 128, 1)
	checkFrontier(t, open(15, 65535, 65535, 8192, 1<<62, 1<<62),
		0, 128, 128, 128, 128, 128, 128, 128, 128, 64, 128, 128, 128, 128, 128, 128, 128, 128, 64, 1, 15, 255, 255, 3, 255, 255, 3, 128, 64)
	checkFrontier(t, api.Frontier{Verdict: safe()}, 1, 0, 0)
	checkFrontier(t, api.Frontier{Verdict: spent(), Played: 7, Charged: 1 << 40}, 3, 7, 128, 128, 128, 128, 128, 32)
	checkFrontier(t, api.Frontier{Verdict: fails(api.Overrun, 1, 0, 1, 1), Played: 128, Charged: 127}, 2, 5, 2, 3, 0, 1, 1, 128, 1, 127)
	checkFrontier(t, api.Frontier{Verdict: fails(api.Deadlock, -1), Charged: 3}, 2, 4, 0, 0, 0, 3)
	// nil and empty are the same.
	checkFrontier(t, api.Frontier{Path: []int{}, Back: []int{}, Asleep: []int{}, Verdict: api.Verdict{Kind: api.Spent, Schedule: []int{}}}, 3, 0, 0)
	f := full()
	f.Verdict.Schedule = []int{}
	checkFrontier(t, f, secondFrontierBytes(full())...)
}

// Each number of a frontier at its edges, and past them; two at a time.
func TestEdges(t *testing.T) {
	edges := []int{math.MinInt, -1, 0, 1, 15, 16, 127, 128, 8192, 8193, 65535, 65536, 1 << 32, 1<<32 + 1, 1 << 62, 1<<62 + 1, math.MaxInt}
	places := func(f *api.Frontier) []*int {
		return []*int{&f.Path[0], &f.Path[2], &f.Back[1], &f.Back[2], &f.Asleep[0], &f.Asleep[2], &f.Done, &f.Played, &f.Charged}
	}
	f := full()
	count, written := len(places(&f)), 0
	for i := range count {
		for j := range i {
			for _, x := range edges {
				for _, y := range edges {
					f := full()
					*places(&f)[i], *places(&f)[j] = x, y
					if againstSecondWriter(t, f) {
						written++
					}
				}
			}
		}
	}
	if written < 2000 {
		t.Error(written)
	}
}

// What may stand beside a verdict, and what must stand where there is none.
func TestVerdictsOfFrontiers(t *testing.T) {
	for _, v := range []api.Verdict{{}, safe(), spent(), fails(api.Deadlock, -1, 0), fails(api.Trapped, 2, 1, 0), {Kind: 4}, {Kind: -1}, fails(0, 0), {How: 2}, {Who: -1},
		{Schedule: []int{0}}, {Kind: api.Safe, Who: 1}, {Kind: api.Spent, Schedule: []int{0}}, fails(api.Deadlock, 0), fails(api.Overrun, -1), fails(api.Failed, 0, 16)} {
		for n := range 3 {
			for change := range 5 {
				f := api.Frontier{Verdict: v, Path: times(n, 0), Back: times(n, 1), Asleep: times(n, 2), Played: 5, Charged: 6}
				switch change {
				case 1:
					f.Path = append(f.Path, 0)
				case 2:
					f.Back = append(f.Back, 0)
				case 3:
					f.Asleep = append(f.Asleep, 0)
				case 4:
					f.Done = 1
				}
				want := v.Kind == api.Open && n > 0 && (change == 0 || change == 4) || v.Kind != api.Open && n+change == 0
				if got := againstSecondWriter(t, f); got != (want && secondMayBeVerdict(v)) {
					t.Error(f, got)
				}
			}
		}
	}
}

func TestMostLevels(t *testing.T) {
	f := api.Frontier{Path: times(most, 15), Back: times(most, 65535), Asleep: times(most, 256), Done: 1, Charged: 2}
	want := append([]byte{0, 0, 2, 0x81, 0x80, 0x40}, bytes.Repeat([]byte{15, 255, 255, 3, 128, 2}, most)...)
	checkFrontier(t, f, append(want, 1)...)
	last := f
	last.Path = append(times(most-1, 0), 16)
	checkNotWritten(t, last)
	last = f
	last.Asleep = append(times(most-1, 0), 65536)
	checkNotWritten(t, last)
	f.Path, f.Back, f.Asleep = append(f.Path, 0), append(f.Back, 0), append(f.Asleep, 0)
	checkNotWritten(t, f)
	want = append(want, 0, 0, 0, 1)
	checkNotRead(t, want)
	want[3]++
	checkNotRead(t, want)
	checkNotWritten(t, api.Frontier{Path: f.Path, Back: f.Back[:most], Asleep: f.Asleep})
}

func TestFrontiersThatAreNotRead(t *testing.T) {
	for _, b := range [][]byte{
		nil, {}, {0}, {0, 0}, {0, 0, 0}, {0, 0, 0, 0}, {0, 0, 0, 0, 0}, {0, 0, 0, 1}, {0, 0, 0, 1, 0, 0, 0}, {0, 0, 0, 1, 0, 0, 0, 0, 0},
		{0, 0, 0, 2, 0, 0, 0, 0}, {0, 0, 0, 2, 0, 0, 0, 0, 0}, {0, 0, 0, 2, 0, 0, 0, 0, 0, 0}, {0, 0, 0, 1, 16, 0, 0, 0},
		{0, 0, 0, 1, 0, 128, 128, 4, 0, 0}, {0, 0, 0, 1, 0, 0, 128, 128, 4, 0}, {0, 0, 0, 1, 0, 0, 0, 129, 64}, {0, 0, 0, 1, 0, 0, 0, 128, 128, 1},
		{0, 0, 0, 129, 0, 0, 0, 0, 0}, {0, 128, 0, 0, 1, 0, 0, 0, 0}, {128, 0, 0, 0, 1, 0, 0, 0, 0},
		{1}, {1, 0}, {1, 0, 0, 0}, {1, 128, 0}, {1, 0, 128}, {1, 0, 128, 0}, {3, 0}, {4, 0, 0}, {127, 0, 0}, {130, 1, 0, 0},
		{2, 4, 0, 0}, {2, 4, 0, 0, 0}, {2, 4, 0, 0, 0, 0, 0}, {2, 4, 0, 1, 0, 0}, {2, 4, 1, 0, 0, 0}, {2, 4, 0, 1, 16, 0, 0},
	} {
		checkNotRead(t, b)
	}
}

// Numbers of any size, where each that is written is at most 2^62.
func TestGreatNumbers(t *testing.T) {
	// The shortest bytes of 2^62, 2^62 + 1, 2^63 - 1, 2^63, 2^64 - 1, and more.
	great := [][]byte{
		{128, 128, 128, 128, 128, 128, 128, 128, 64},
		{129, 128, 128, 128, 128, 128, 128, 128, 64},
		{255, 255, 255, 255, 255, 255, 255, 255, 127},
		{128, 128, 128, 128, 128, 128, 128, 128, 128, 1},
		{255, 255, 255, 255, 255, 255, 255, 255, 255, 1},
		{128, 128, 128, 128, 128, 128, 128, 128, 128, 2},
		{129, 128, 128, 128, 128, 128, 128, 128, 128, 2},
		{132, 128, 128, 128, 128, 128, 128, 128, 128, 128, 128, 1},
		append(bytes.Repeat([]byte{128}, 99), 1),
		// Those whose lowest 32 bits are small.
		{128, 128, 128, 128, 16},
		{129, 128, 128, 128, 16},
		{132, 128, 128, 128, 128, 128, 128, 128, 64},
	}
	read := 0
	for _, rows := range [][]byte{{1, 0, 0}, {0, 5, 6, 1, 1, 2, 3, 4}, {2, 4, 0, 2, 0, 1, 0, 0}, {2, 2, 1, 1, 0, 0, 0},
		{2, 4, 0, 0}, {2, 2, 1, 0}, {0, 0, 0, 0, 0}} {
		for at := range rows {
			for _, n := range great {
				b := slices.Concat(rows[:at], n, rows[at+1:])
				if _, as := againstSecond(t, b); as {
					read++
				}
			}
		}
	}
	// 2^62, and those of few bits more than 32, as Played and as Charged.
	if read != 4*2*3 {
		t.Error(read)
	}
}

// P17.3: one byte less, or one more, is not read, wherever it is taken away or put in, unless what comes is the bytes of another one.
func TestByteLessOrMore(t *testing.T) {
	for _, f := range []api.Frontier{full(), open(1, 2, 0, 3, 4, 5), {Verdict: safe(), Played: 300}, {Verdict: spent(), Charged: 1 << 40},
		{Verdict: fails(api.Trapped, 1, 0, 1, 0), Played: 200, Charged: 9}} {
		b, _ := frontier.Bytes(f)
		for n := range b {
			checkNotRead(t, b[:n])
			againstSecond(t, b[n:])
			againstSecond(t, slices.Delete(slices.Clone(b), n, n+1))
			for x := range 256 {
				againstSecond(t, slices.Insert(slices.Clone(b), n, byte(x)))
				changed := slices.Clone(b)
				changed[n] = byte(x)
				againstSecond(t, changed)
			}
		}
		for x := range 256 {
			checkNotRead(t, append(slices.Clone(b), byte(x)))
		}
	}
	b, _ := frontier.Verdict(fails(api.Trapped, 1, 0, 1, 0))
	for n := range b {
		checkVerdictNotRead(t, b[:n])
	}
	for x := range 256 {
		checkVerdictNotRead(t, append(slices.Clone(b), byte(x)))
		checkVerdictNotRead(t, []byte{1, byte(x)})
	}
}

// A number in more bytes than it needs is not read, in whatever place.
func TestLongerNumbers(t *testing.T) {
	for _, f := range []api.Frontier{full(), {Verdict: safe(), Played: 300}, {Verdict: fails(api.Trapped, 1, 0, 1, 0), Played: 200, Charged: 9}} {
		b, _ := frontier.Bytes(f)
		for at, c := range b {
			if c < 128 {
				checkNotRead(t, slices.Concat(b[:at], []byte{c + 128, 0}, b[at+1:]))
				checkNotRead(t, slices.Concat(b[:at], []byte{c + 128, 128, 0}, b[at+1:]))
			}
		}
	}
}

// All bytes of a few values, up to six or nine of them, and all of up to two.
func TestAllSmallBytes(t *testing.T) {
	verdicts, frontiers := 0, 0
	see := func(b []byte) {
		asVerdict, asFrontier := againstSecond(t, b)
		if asVerdict {
			verdicts++
		}
		if asFrontier {
			frontiers++
		}
	}
	var row func(b, values []byte, left int)
	row = func(b, values []byte, left int) {
		see(b)
		for _, x := range values {
			if left > 0 {
				row(append(b, x), values, left-1)
			}
		}
	}
	row(nil, []byte{0, 1, 2, 3, 4, 16, 17, 128}, 6)
	row(nil, []byte{0, 1, 128}, 9)
	for x := range 256 {
		see([]byte{byte(x)})
		for y := range 256 {
			see([]byte{byte(x), byte(y)})
		}
	}
	if verdicts < 300 || frontiers < 1500 {
		t.Error(verdicts, frontiers)
	}
}

// Numbers that say that more follows than there is, or than may be, take neither time nor memory.
func TestFalseNumbers(t *testing.T) {
	try := func(n int, count ...byte) {
		t.Helper()
		for _, ahead := range [][]byte{{2, 4, 0}, {0, 0, 0}} {
			b := slices.Concat(ahead, count, make([]byte, n))
			var before, after runtime.MemStats
			runtime.ReadMemStats(&before)
			checkNotRead(t, b)
			checkVerdictNotRead(t, b)
			runtime.ReadMemStats(&after)
			if size := after.TotalAlloc - before.TotalAlloc; size > 1<<18 {
				t.Errorf("%s: %d bytes", short(b), size)
			}
		}
	}
	for _, n := range []int{0, 1, 9, 1000} {
		try(n, 129, 128, 64)
		try(n, 128, 128, 64)
	}
	for _, n := range []int{0, 1, 9, 1000, 1 << 22} {
		try(n, 130, 128, 64)
		try(n, 128, 128, 128, 128, 8)
		try(n, 255, 255, 255, 255, 255, 255, 255, 255, 127)
		try(n, 255, 255, 255, 255, 255, 255, 255, 255, 255, 1)
	}
}

// P17.2

// An error that is named first is answered first.
func TestErrorsOfResume(t *testing.T) {
	c := compiled(t, "thread t { skip; }")
	good, _ := frontier.Bytes(begun(t, c, 10, 10).Frontier())
	broken, _ := frontier.Bytes(open(1, 2, 0, 0, 0, 0))
	wrongCodes := []api.Code{{}, {Bodies: make([]api.Body, 17)}, {Mutexes: 17, Bodies: make([]api.Body, 1)},
		{Bodies: []api.Body{{Nodes: []api.Node{{Kind: api.Demand}}}}},
		{Shared: []api.Value{{T: api.Int}}, Bodies: []api.Body{{Stack: 1, Nodes: []api.Node{{Kind: api.SetShared, Code: []api.Instr{{Op: api.Fetch}}}}}}}}
	if err := code.Check(wrongCodes[4]); err != code.ErrTouch {
		t.Fatal(err)
	}
	for _, b := range [][]byte{good, broken, nil, {1, 0, 0, 0}, {9}} {
		for _, wrong := range wrongCodes {
			checkResume(t, wrong, 10, 10, b, api.ErrArg)
		}
		for _, work := range []int{math.MinInt, -1, 0, 65537, math.MaxInt} {
			checkResume(t, c, work, 10, b, api.ErrArg)
		}
		for _, budget := range []int{math.MinInt, -1, 1<<40 + 1, math.MaxInt} {
			checkResume(t, c, 10, budget, b, api.ErrArg)
		}
	}
	for _, work := range []int{1, 65536} {
		for _, budget := range []int{0, 1, 1 << 40} {
			for _, b := range [][]byte{nil, {1, 0, 0, 0}, {9}, good[1:], good[:7], append(slices.Clone(good), 0)} {
				checkResume(t, c, work, budget, b, api.ErrBytes)
			}
			checkResume(t, c, work, budget, broken, api.ErrBroken)
			want := api.OK
			if budget == 0 {
				want = api.ErrBroken
			}
			checkResume(t, c, work, budget, good, want)
		}
	}
}

// What may be written need not be of these.
func TestBrokenFrontiers(t *testing.T) {
	c := compiled(t, "shared x int; mutex m; thread a { x = 1; } thread b { lock m; }")
	try := func(want api.Errno, f api.Frontier) {
		t.Helper()
		b, err := frontier.Bytes(f)
		if err != api.OK {
			t.Fatal(err)
		}
		if s := checkResume(t, c, 10, 100, b, want); want == api.OK {
			checkStand(t, s, f)
		}
	}
	try(api.OK, open(0, 1, 0, 0, 0, 0))
	try(api.OK, open(0, 3, 2, 1, 1<<62, 99))
	try(api.ErrBroken, open(0, 1, 0, 0, 0, 100))
	try(api.ErrBroken, open(0, 1, 0, 2, 0, 0))
	try(api.ErrBroken, open(0, 1, 0, 8192, 0, 0))
	try(api.ErrBroken, open(0, 2, 0, 0, 0, 0))
	try(api.ErrBroken, open(0, 1, 1, 0, 0, 0))
	try(api.ErrBroken, open(0, 5, 0, 0, 0, 0))
	try(api.ErrBroken, open(0, 65535, 0, 0, 0, 0))
	try(api.ErrBroken, open(0, 1, 32768, 0, 0, 0))
	try(api.ErrBroken, open(2, 7, 0, 0, 0, 0))
	try(api.ErrBroken, open(15, 65535, 0, 0, 0, 0))
	try(api.ErrBroken, api.Frontier{Path: []int{0, 0}, Back: []int{1, 1}, Asleep: []int{0, 0}})
	try(api.OK, api.Frontier{Path: []int{0, 1}, Back: []int{1, 2}, Asleep: []int{0, 0}})
	try(api.OK, api.Frontier{Verdict: safe(), Charged: 100})
	try(api.ErrBroken, api.Frontier{Verdict: safe(), Charged: 101})
	try(api.OK, api.Frontier{Verdict: spent(), Charged: 100})
	try(api.ErrBroken, api.Frontier{Verdict: spent(), Charged: 99})
	try(api.OK, api.Frontier{Verdict: fails(api.Deadlock, -1, 1, 0)})
	try(api.OK, api.Frontier{Verdict: fails(api.Failed, 1)})
	try(api.ErrBroken, api.Frontier{Verdict: fails(api.Failed, 2)})
	try(api.ErrBroken, api.Frontier{Verdict: fails(api.Overrun, 1, 0, 2)})
}

// P17.3: a step may have as many instructions as a node; also far within it a search is written.
func TestFarWithinAStep(t *testing.T) {
	instrs := append([]api.Instr{{Op: api.Lit, Lit: api.Value{T: api.Bool, Bits: 1}}}, times(8191, api.Instr{Op: api.Not})...)
	c := api.Code{Bodies: []api.Body{{Stack: 1, Nodes: []api.Node{{Code: instrs, Kind: api.Branch, Next: 1}}}}}
	for _, n := range []int{0, 1, 127, 128, 8191, 8192} {
		s := begun(t, c, 65536, 1<<40)
		s.Run(n)
		want := open(0, 1, 0, n, 0, n)
		checkStand(t, s, want)
		b, err := frontier.Bytes(want)
		if err != api.OK {
			t.Fatal(n, err)
		}
		other := checkResume(t, c, 65536, 1<<40, b, api.OK)
		checkStand(t, other, want)
		other.Run(1 << 40)
		s.Run(1 << 40)
		checkStand(t, other, s.Frontier())
	}
}
