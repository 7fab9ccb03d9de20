package log_test

import (
	"bytes"
	"math"
	"slices"
	"strconv"
	"strings"
	"testing"
	"unsafe"

	"assize/api"
	"assize/disk"
	"assize/log"
)

// put lays a file down, safe.
func put(t testing.TB, d *disk.Disk, name string, b ...byte) {
	t.Helper()
	ok(t, d.Append(name, b))
	ok(t, d.Sync(name))
}

// checkFile fails if a file has not these bytes, all of them safe.
func checkFile(t testing.TB, d *disk.Disk, name string, want ...byte) {
	t.Helper()
	if got, err := d.Read(name); err != api.OK || !bytes.Equal(got, want) || d.Loose(name) != 0 {
		t.Fatalf("Read(%q) = %v, %v, %d loose; not %v", name, got, err, d.Loose(name), want)
	}
}

// full tells a disk with as many files as there may be, none of them named l.
func full(t testing.TB, size int) *disk.Disk {
	t.Helper()
	d := made(t, size)
	for i := range api.MaxFiles {
		ok(t, d.Append("x"+strconv.Itoa(i), nil))
	}
	return d
}

// P21.1

func TestOpenArguments(t *testing.T) {
	d := made(t, 100)
	before := look(d)
	for _, name := range []string{"", "L", "a b", "a/b", "a\x00", "é", "_", strings.Repeat("a", 41)} {
		checkRefused(t, d, name, 40, api.ErrArg)
	}
	for _, reserve := range []int{0, -1, math.MinInt, 1<<26 + 1, 1 << 32, math.MaxInt} {
		checkRefused(t, d, "l", reserve, api.ErrArg)
	}
	for _, name := range []string{"l", "0", ".", "-", "log.7", strings.Repeat("z", 40)} {
		for _, reserve := range []int{1, 12, 1 << 26} {
			opened(t, d, name, reserve)
		}
	}
	// Opening makes no file.
	checkSeen(t, d, before)
}

func TestOpenTells(t *testing.T) {
	d := made(t, 1<<18)
	l := opened(t, d, "l", 1<<18)
	var want [][]byte
	for _, n := range []int{0, 1, 65536, 255, 0} {
		b := bytes.Repeat([]byte{byte(n + 1)}, n)
		ok(t, l.Commit(b))
		want = append(want, b)
		opened(t, d, "l", 1<<18, want...)
		checkFile(t, d, "l", frames(want...)...)
	}
	put(t, d, "empty")
	before := look(d)
	opened(t, d, "empty", 40)
	opened(t, d, "l", 1<<18, want...)
	checkSeen(t, d, before)
}

// What is loose is synced ahead of all else, and what was cut off is cut away.
func TestOpenMends(t *testing.T) {
	whole := frames([]byte{1, 2}, nil)
	for cut := range 14 {
		d := made(t, 100)
		b := append(slices.Clone(whole), frames([]byte{3, 4})[:cut]...)
		ok(t, d.Append("l", b))
		opened(t, d, "l", 40, []byte{1, 2}, nil)
		checkFile(t, d, "l", whole...)
		writes := 3
		if cut == 0 {
			writes = 2
		}
		if d.Writes() != writes {
			t.Errorf("%d writes, not %d", d.Writes(), writes)
		}
		opened(t, d, "l", 40, []byte{1, 2}, nil)
		if d.Writes() != writes {
			t.Errorf("%d writes, not %d", d.Writes(), writes)
		}
	}
	d := made(t, 100)
	put(t, d, "l", 0, 0)
	opened(t, d, "l", 1)
	checkFile(t, d, "l")
}

func TestOpenBroken(t *testing.T) {
	for _, tail := range [][]byte{
		{0, 0, 0, 1, 255, 255, 255, 255},
		{0, 1, 0, 1, 255, 254, 255, 254},
		append(frames([]byte{7})[:12], 0),
		make([]byte, 8),
	} {
		for _, front := range [][]byte{nil, frames([]byte{1}), frames(nil, []byte{1, 2})} {
			d := made(t, 100)
			put(t, d, "l", append(slices.Clone(front), tail...)...)
			before := look(d)
			checkRefused(t, d, "l", 100, api.ErrBroken)
			checkSeen(t, d, before)
			// That the frames are too many is told behind it.
			checkRefused(t, d, "l", 1, api.ErrBroken)
			checkSeen(t, d, before)
		}
	}
}

func TestOpenReserve(t *testing.T) {
	d := made(t, 100)
	put(t, d, "l", frames([]byte{1, 2}, []byte{3})...)
	before := look(d)
	checkRefused(t, d, "l", 26, api.ErrQuota)
	checkRefused(t, d, "l", 1, api.ErrQuota)
	checkSeen(t, d, before)
	checkRoom(t, opened(t, d, "l", 27, []byte{1, 2}, []byte{3}), -1)
	checkRoom(t, opened(t, d, "l", 38, []byte{1, 2}, []byte{3}), -1)
	checkRoom(t, opened(t, d, "l", 39, []byte{1, 2}, []byte{3}), 0)
	// What is cut away does not count, and is cut away first.
	put(t, d, "l", 0, 0, 0)
	opened(t, d, "l", 27, []byte{1, 2}, []byte{3})
	put(t, d, "l", 0, 0, 0)
	checkRefused(t, d, "l", 26, api.ErrQuota)
	checkFile(t, d, "l", frames([]byte{1, 2}, []byte{3})...)
}

// Of what the disk refuses the first is told, in the order of the promise.
func TestOpenWithoutPower(t *testing.T) {
	bad := []byte{0, 0, 0, 1, 255, 255, 255, 255}
	for _, x := range []struct {
		bytes []byte
		loose bool
		power int
		want  api.Errno
	}{
		{frames([]byte{1}), true, 0, api.ErrDisk},
		{frames([]byte{1}), true, 1, api.OK},
		{frames([]byte{1}), false, 0, api.OK},
		{bad, true, 0, api.ErrDisk},
		{bad, true, 1, api.ErrBroken},
		{bad, false, 0, api.ErrBroken},
		{[]byte{0}, true, 0, api.ErrDisk},
		{[]byte{0}, true, 1, api.ErrDisk},
		{[]byte{0}, true, 2, api.OK},
		{[]byte{0}, false, 0, api.ErrDisk},
		{[]byte{0}, false, 1, api.OK},
		{append(frames([]byte{1, 2, 3}), 0), false, 0, api.ErrDisk},
		{append(frames([]byte{1, 2, 3}), 0), false, 1, api.ErrQuota},
		{frames([]byte{1, 2, 3}), true, 0, api.ErrDisk},
		{frames([]byte{1, 2, 3}), true, 1, api.ErrQuota},
		{frames([]byte{1, 2, 3}), false, 0, api.ErrQuota},
	} {
		d := made(t, 100)
		ok(t, d.Append("l", x.bytes))
		if !x.loose {
			ok(t, d.Sync("l"))
		}
		ok(t, d.Stop(x.power))
		if _, _, err := log.Open(d, "l", 14); err != x.want {
			t.Errorf("%+v: %v", x, err)
		}
		checkRefused(t, d, "L", 14, api.ErrArg)
	}
	d := made(t, 100)
	ok(t, d.Stop(0))
	opened(t, d, "l", 14)
}

// P21.2

func TestCommitLengths(t *testing.T) {
	d := made(t, 1<<18)
	l := opened(t, d, "l", 1<<18)
	long := make([]byte, 65536)
	ok(t, l.Commit(long))
	checkLog(t, l, 1, 65548, false)
	before := look(d)
	checkErr(t, l.Commit(make([]byte, 65537)), api.ErrLong)
	checkErr(t, l.Commit(make([]byte, 1<<20)), api.ErrLong)
	checkSeen(t, d, before)
	checkLog(t, l, 1, 65548, false)
	ok(t, l.Commit(nil))
	ok(t, l.Commit([]byte{}))
	checkLog(t, l, 3, 65572, false)
	opened(t, d, "l", 1<<18, long, nil, nil)
	// A record that is too long is so, however little fits.
	small := opened(t, d, "s", 1)
	checkErr(t, small.Commit(make([]byte, 65537)), api.ErrLong)
	checkErr(t, small.Commit(long), api.ErrQuota)
	checkErr(t, small.Commit(nil), api.ErrQuota)
	checkLog(t, small, 0, 0, false)
}

func TestCommitQuota(t *testing.T) {
	for reserve := 1; reserve < 60; reserve++ {
		d := made(t, 100)
		l := opened(t, d, "l", reserve)
		for reserve-l.Size() >= 13 {
			ok(t, l.Commit([]byte{9}))
		}
		before := look(d)
		checkErr(t, l.Commit([]byte{9}), api.ErrQuota)
		checkSeen(t, d, before)
		checkLog(t, l, reserve/13, reserve/13*13, false)
		if reserve%13 == 12 {
			ok(t, l.Commit(nil))
			checkLog(t, l, reserve/13+1, reserve, false)
		}
	}
}

// A full disk breaks no log.
func TestCommitFull(t *testing.T) {
	d := made(t, 30)
	l := opened(t, d, "l", 100)
	ok(t, l.Commit([]byte{1}))
	before := look(d)
	for range 3 {
		checkErr(t, l.Commit(make([]byte, 6)), api.ErrFull)
		checkSeen(t, d, before)
		checkLog(t, l, 1, 13, false)
	}
	ok(t, l.Commit(make([]byte, 5)))
	checkLog(t, l, 2, 30, false)
	checkErr(t, l.Commit(nil), api.ErrFull)
	// A full disk tells so with its power gone, too.
	ok(t, d.Stop(0))
	checkErr(t, l.Commit(nil), api.ErrFull)
	checkLog(t, l, 2, 30, false)
	opened(t, d, "l", 100, []byte{1}, make([]byte, 5))

	d = full(t, 100)
	l = opened(t, d, "l", 100)
	checkErr(t, l.Commit([]byte{1}), api.ErrFull)
	checkLog(t, l, 0, 0, false)
	ok(t, d.Remove("x7"))
	ok(t, l.Commit([]byte{1}))
	checkLog(t, l, 1, 13, false)
	opened(t, d, "l", 100, []byte{1})
}

// A log that the disk refused is broken from then on, also behind the crash.
func TestCommitWithoutPower(t *testing.T) {
	for power := range 2 {
		d := made(t, 100)
		l := opened(t, d, "l", 60)
		ok(t, l.Commit([]byte{1}))
		ok(t, d.Stop(power))
		checkErr(t, l.Commit([]byte{2}), api.ErrDisk)
		if d.Loose("l") != power*13 || d.Writes() != 2+power {
			t.Errorf("%d loose, %d writes", d.Loose("l"), d.Writes())
		}
		checkLog(t, l, 1, 13, true)
		for _, crash := range []bool{false, true} {
			if crash {
				ok(t, d.Crash([]int{13}))
			}
			before := look(d)
			for _, n := range []int{0, 1, 48, 65537} {
				checkErr(t, l.Commit(make([]byte, n)), api.ErrBroken)
			}
			checkSeen(t, d, before)
			checkLog(t, l, 1, 13, true)
			// What fits is told of what the log has, broken or not.
			checkRoom(t, l, 35)
		}
		want := [][]byte{{1}, {2}}[:1+power]
		l = opened(t, d, "l", 60, want...)
		ok(t, l.Commit([]byte{3}))
		opened(t, d, "l", 60, append(slices.Clone(want), []byte{3})...)
	}
	// The power goes behind the two writes of a commit: that one is done.
	d := made(t, 100)
	l := opened(t, d, "l", 60)
	ok(t, d.Stop(2))
	ok(t, l.Commit([]byte{1}))
	checkLog(t, l, 1, 13, false)
	checkErr(t, l.Commit(make([]byte, 36)), api.ErrQuota)
	checkLog(t, l, 1, 13, false)
	ok(t, d.Crash(nil))
	ok(t, l.Commit([]byte{2}))
	opened(t, d, "l", 60, []byte{1}, []byte{2})
}

// P21.3

func TestFits(t *testing.T) {
	d := made(t, 1<<26)
	l := opened(t, d, "l", 1<<26)
	checkRoom(t, l, 65536)
	for _, n := range []int{-1, -12, -13, 65537, 1 << 26, 1 << 32, math.MinInt, math.MinInt + 12, math.MaxInt, math.MaxInt - 11} {
		if l.Fits(n) {
			t.Errorf("Fits(%d)", n)
		}
	}
	for n := 0; n <= 65536; n += 8 {
		if !l.Fits(n) {
			t.Errorf("not Fits(%d)", n)
		}
	}
	for _, x := range [][2]int{{1, -1}, {11, -1}, {12, 0}, {13, 1}, {65547, 65535}, {65548, 65536}, {65549, 65536}} {
		checkRoom(t, opened(t, d, "l", x[0]), x[1])
	}
	l = opened(t, d, "l", 100)
	for size := 0; size < 96; size += 16 {
		checkLog(t, l, size/16, size, false)
		checkRoom(t, l, max(100-size-12, -1))
		ok(t, l.Commit(make([]byte, 4)))
	}
	checkLog(t, l, 6, 96, false)
	checkRoom(t, l, -1)
}

// Logs in other files, or of other disks, are other ones.
func TestLogsOfTheirOwn(t *testing.T) {
	d, other := made(t, 100), made(t, 100)
	l, m, n := opened(t, d, "l", 40), opened(t, d, "m", 50), opened(t, other, "l", 60)
	ok(t, l.Commit([]byte{1}))
	ok(t, n.Commit([]byte{2, 2}))
	ok(t, n.Commit(nil))
	checkLog(t, l, 1, 13, false)
	checkLog(t, m, 0, 0, false)
	checkLog(t, n, 2, 26, false)
	checkRoom(t, l, 15)
	checkRoom(t, m, 38)
	checkRoom(t, n, 22)
	ok(t, d.Stop(0))
	checkErr(t, m.Commit(nil), api.ErrDisk)
	checkLog(t, l, 1, 13, false)
	checkLog(t, m, 0, 0, true)
	ok(t, n.Commit(nil))
	ok(t, d.Crash(nil))
	ok(t, l.Commit([]byte{4}))
	opened(t, d, "l", 40, []byte{1}, []byte{4})
	opened(t, d, "m", 50)
	opened(t, other, "l", 60, []byte{2, 2}, nil, nil)
}

// Rule 5

func TestNone(t *testing.T) {
	d := made(t, 100)
	l := opened(t, d, "l", 40)
	ok(t, l.Commit([]byte{1}))
	copied := *l
	for _, none := range []*log.Log{nil, {}, &copied} {
		before := look(d)
		for _, n := range []int{0, 1, 65537} {
			checkErr(t, none.Commit(make([]byte, n)), api.ErrNil)
		}
		checkLog(t, none, 0, 0, false)
		checkRoom(t, none, -1)
		checkSeen(t, d, before)
	}
	ok(t, l.Commit([]byte{2}))
	copiedDisk := *d
	for _, none := range []*disk.Disk{nil, {}, &copiedDisk} {
		checkRefused(t, none, "l", 40, api.ErrNil)
		checkRefused(t, none, "L", 0, api.ErrNil)
	}
}

// Rule 4

func TestMemoryOfItsOwn(t *testing.T) {
	d := made(t, 200)
	memory := []byte("labc")
	l := opened(t, d, unsafe.String(&memory[0], 1), 100)
	record, room := memory[1:3:3], memory[1:3]
	copy(memory, "zzzz")
	copy(record, "ab")
	ok(t, l.Commit(record))
	if string(memory) != "zabz" {
		t.Errorf("%q", memory)
	}
	copy(record, "zz")
	ok(t, l.Commit(room))
	if string(memory) != "zzzz" {
		t.Errorf("%q", memory)
	}
	if !slices.Equal(d.Names(), []string{"l"}) {
		t.Errorf("%q", d.Names())
	}
	want := [][]byte{[]byte("ab"), []byte("zz")}
	_, records, _ := log.Open(d, "l", 100)
	for i := range records {
		spare := records[i][:cap(records[i])]
		for j := range spare {
			spare[j] = 'y'
		}
		_ = append(records[i], "yyyyyyyyyyyyyyyyyyyyyyyyyyyyyyyyyyyyyyyy"...)
		if i == 0 && string(records[1]) != "zz" {
			t.Errorf("%q", records)
		}
	}
	_ = append(records, []byte("y"))
	opened(t, d, "l", 100, want...)
	ok(t, l.Commit([]byte("c")))
	opened(t, d, "l", 100, append(want, []byte("c"))...)
}
