package disk_test

import (
	"bytes"
	"math"
	"slices"
	"strconv"
	"strings"
	"testing"
	"unsafe"

	"assize/api"
	"assize/disk"
)

// P19.1

func TestNew(t *testing.T) {
	for _, size := range []int{1, 2, 1000, 1<<26 - 1, 1 << 26} {
		d := made(t, size)
		checkNames(t, d)
		checkUsed(t, d, 0)
		checkPower(t, d, false, 0)
		if d.Size() != size {
			t.Errorf("Size() = %d, not %d", d.Size(), size)
		}
	}
	for _, size := range []int{0, -1, 1<<26 + 1, math.MinInt, math.MaxInt} {
		if d, err := disk.New(size); d != nil || err != api.ErrArg {
			t.Errorf("New(%d) = %v, %v", size, d, err)
		}
	}
}

func TestNamesRise(t *testing.T) {
	d := made(t, 10)
	for _, name := range []string{"b", "a", "ab", "-", ".", "9", "z", "a.", "a-", "0"} {
		ok(t, d.Append(name, nil))
	}
	checkNames(t, d, "-", ".", "0", "9", "a", "a-", "a.", "ab", "b", "z")
}

func TestWhatIsThereIsRead(t *testing.T) {
	d := made(t, 10)
	ok(t, d.Append("a", []byte{1, 2}))
	ok(t, d.Append("b", []byte{3}))
	checkFile(t, d, "a", 2, 1, 2)
	checkFile(t, d, "b", 1, 3)
	checkUsed(t, d, 3)
	ok(t, d.Sync("a"))
	ok(t, d.Append("a", []byte{4, 5, 6}))
	checkFile(t, d, "a", 3, 1, 2, 4, 5, 6)
	checkUsed(t, d, 6)
	for _, name := range []string{"c", "", "A", "aa", "a\x00", strings.Repeat("a", 41)} {
		if b, err := d.Read(name); len(b) != 0 || err != api.ErrMissing {
			t.Errorf("Read(%q) = %v, %v", name, b, err)
		}
		if n := d.Loose(name); n != 0 {
			t.Errorf("Loose(%q) = %d", name, n)
		}
	}
	if d.Size() != 10 {
		t.Error("Size() =", d.Size())
	}
}

// P19.2

func TestWhichNamesMayBe(t *testing.T) {
	for c := range 256 {
		for _, name := range []string{string([]byte{byte(c)}), "a" + string([]byte{byte(c)}) + "b", string([]byte{byte(c)}) + "b", "a" + string([]byte{byte(c)})} {
			want := api.ErrArg
			if c >= 'a' && c <= 'z' || c >= '0' && c <= '9' || c == '.' || c == '-' {
				want = api.OK
			}
			d := made(t, 10)
			checkErr(t, d.Append(name, nil), want)
			ok(t, d.Append("from", nil))
			checkErr(t, d.Rename("from", name), want)
		}
	}
	for n := range 100 {
		want := api.ErrArg
		if n >= 1 && n <= 40 {
			want = api.OK
		}
		d := made(t, 10)
		checkErr(t, d.Append(strings.Repeat("a", n), nil), want)
		ok(t, d.Append("from", nil))
		checkErr(t, d.Rename("from", strings.Repeat("z", n)), want)
	}
	checkErr(t, made(t, 10).Append("é", nil), api.ErrArg)
	checkErr(t, made(t, 10).Append("\uff41", nil), api.ErrArg)
}

func TestAppendAndNoRoom(t *testing.T) {
	d := made(t, 5)
	ok(t, d.Append("a", []byte{1, 2, 3}))
	checkErr(t, d.Append("a", []byte{4, 5, 6}), api.ErrFull)
	checkErr(t, d.Append("b", []byte{4, 5, 6}), api.ErrFull)
	checkFile(t, d, "a", 3, 1, 2, 3)
	checkNames(t, d, "a")
	ok(t, d.Append("b", []byte{4, 5}))
	checkUsed(t, d, 5)
	checkErr(t, d.Append("b", []byte{6}), api.ErrFull)
	checkErr(t, d.Append("c", []byte{6}), api.ErrFull)
	ok(t, d.Append("c", nil))
	ok(t, d.Append("a", nil))
	checkNames(t, d, "a", "b", "c")
	checkPower(t, d, false, 4)
	ok(t, d.Remove("a"))
	ok(t, d.Append("c", []byte{6, 7, 8}))
	checkFile(t, d, "c", 3, 6, 7, 8)
	checkUsed(t, d, 5)
}

func TestTheGreatestDisk(t *testing.T) {
	d := made(t, api.MaxDisk)
	b := make([]byte, api.MaxDisk+1)
	checkErr(t, d.Append("a", b), api.ErrFull)
	ok(t, d.Append("a", b[:api.MaxDisk-1]))
	checkErr(t, d.Append("b", b[:2]), api.ErrFull)
	ok(t, d.Append("b", b[:1]))
	checkUsed(t, d, api.MaxDisk)
	checkErr(t, d.Append("a", b[:1]), api.ErrFull)
	if d.Loose("a") != api.MaxDisk-1 {
		t.Error(d.Loose("a"))
	}
	ok(t, d.Crash([]int{math.MaxInt, math.MinInt}))
	checkUsed(t, d, api.MaxDisk-1)
	checkNames(t, d, "a")
}

func TestSoManyFiles(t *testing.T) {
	d := made(t, 300)
	for i := range 256 {
		ok(t, d.Append("f"+strconv.Itoa(i), []byte{byte(i)}))
	}
	checkErr(t, d.Append("g", nil), api.ErrFull)
	checkErr(t, d.Append("g", []byte{1}), api.ErrFull)
	ok(t, d.Append("f255", []byte{1}))
	if len(d.Names()) != 256 || d.Writes() != 257 {
		t.Error(len(d.Names()), d.Writes())
	}
	ok(t, d.Sync("f0"))
	ok(t, d.Rename("f0", "g"))
	checkErr(t, d.Append("f0", nil), api.ErrFull)
	ok(t, d.Rename("g", "f1"))
	ok(t, d.Append("f0", nil))
	checkErr(t, d.Append("g", nil), api.ErrFull)
	ok(t, d.Remove("f7"))
	ok(t, d.Append("g", nil))
	checkErr(t, d.Append("h", nil), api.ErrFull)
}

func TestCut(t *testing.T) {
	d := made(t, 10)
	ok(t, d.Append("a", []byte{1, 2, 3}))
	checkErr(t, d.Cut("a", 2), api.ErrState)
	checkErr(t, d.Cut("a", 4), api.ErrArg)
	checkErr(t, d.Cut("a", -1), api.ErrArg)
	checkErr(t, d.Cut("b", -1), api.ErrMissing)
	checkErr(t, d.Cut("B", 0), api.ErrMissing)
	checkErr(t, d.Cut("", 0), api.ErrMissing)
	checkFile(t, d, "a", 3, 1, 2, 3)
	ok(t, d.Sync("a"))
	for _, size := range []int{-1, 4, math.MinInt, math.MaxInt} {
		checkErr(t, d.Cut("a", size), api.ErrArg)
	}
	ok(t, d.Cut("a", 3))
	checkFile(t, d, "a", 0, 1, 2, 3)
	ok(t, d.Cut("a", 2))
	checkFile(t, d, "a", 0, 1, 2)
	checkUsed(t, d, 2)
	ok(t, d.Append("a", []byte{7}))
	checkFile(t, d, "a", 1, 1, 2, 7)
	checkErr(t, d.Cut("a", 2), api.ErrState)
	ok(t, d.Crash(nil))
	ok(t, d.Cut("a", 0))
	checkFile(t, d, "a", 0)
	checkNames(t, d, "a")
	ok(t, d.Cut("a", 0))
	checkPower(t, d, false, 7)
}

// P19.3

func TestSync(t *testing.T) {
	d := made(t, 10)
	checkErr(t, d.Sync("a"), api.ErrMissing)
	checkErr(t, d.Sync(""), api.ErrMissing)
	checkErr(t, d.Sync("A"), api.ErrMissing)
	checkNames(t, d)
	ok(t, d.Append("a", []byte{1, 2}))
	ok(t, d.Append("b", []byte{3}))
	ok(t, d.Sync("a"))
	ok(t, d.Sync("a"))
	checkFile(t, d, "a", 0, 1, 2)
	checkFile(t, d, "b", 1, 3)
	checkPower(t, d, false, 4)
	ok(t, d.Crash(nil))
	checkFile(t, d, "a", 0, 1, 2)
	checkNames(t, d, "a")
}

func TestRename(t *testing.T) {
	d := made(t, 10)
	ok(t, d.Append("a", []byte{1, 2}))
	ok(t, d.Append("b", []byte{3}))
	checkErr(t, d.Rename("a", "b"), api.ErrState)
	checkErr(t, d.Rename("a", "a"), api.ErrState)
	checkErr(t, d.Rename("a", "B"), api.ErrArg)
	checkErr(t, d.Rename("a", ""), api.ErrArg)
	checkErr(t, d.Rename("c", "B"), api.ErrArg)
	checkErr(t, d.Rename("c", "c"), api.ErrMissing)
	checkErr(t, d.Rename("C", "a"), api.ErrMissing)
	checkErr(t, d.Rename("", "a"), api.ErrMissing)
	checkFile(t, d, "a", 2, 1, 2)
	checkFile(t, d, "b", 1, 3)
	ok(t, d.Sync("a"))
	ok(t, d.Rename("a", "b")) // whatever b was: it was loose
	checkNames(t, d, "b")
	checkFile(t, d, "b", 0, 1, 2)
	checkUsed(t, d, 2)
	ok(t, d.Rename("b", "b"))
	checkNames(t, d, "b")
	checkFile(t, d, "b", 0, 1, 2)
	ok(t, d.Rename("b", "a"))
	checkNames(t, d, "a")
	checkPower(t, d, false, 6)
	ok(t, d.Crash(nil))
	checkFile(t, d, "a", 0, 1, 2)
}

func TestRemove(t *testing.T) {
	d := made(t, 10)
	checkErr(t, d.Remove("a"), api.ErrMissing)
	checkErr(t, d.Remove(""), api.ErrMissing)
	ok(t, d.Append("a", []byte{1}))
	ok(t, d.Append("b", []byte{2}))
	ok(t, d.Sync("b"))
	ok(t, d.Append("b", []byte{3}))
	ok(t, d.Remove("b")) // loose or not
	checkErr(t, d.Remove("b"), api.ErrMissing)
	checkNames(t, d, "a")
	checkUsed(t, d, 1)
	ok(t, d.Crash([]int{1}))
	checkNames(t, d, "a")
	checkPower(t, d, false, 5)
	ok(t, d.Append("b", []byte{4})) // another file, which was not synced
	checkFile(t, d, "b", 1, 4)
	ok(t, d.Crash(nil))
	checkNames(t, d, "a")
}

// P19.4

func TestThePowerGoes(t *testing.T) {
	for k := range 7 {
		d := made(t, 10)
		ok(t, d.Append("a", []byte{1}))
		ok(t, d.Stop(k))
		checkPower(t, d, k == 0, 1)
		done := 0
		write := func(err api.Errno) {
			t.Helper()
			if done < k {
				done++
				ok(t, err)
			} else {
				checkErr(t, err, api.ErrDisk)
			}
			checkPower(t, d, done == k, 1+done)
		}
		write(d.Append("a", []byte{2}))
		write(d.Sync("a"))
		if k >= 2 {
			write(d.Cut("a", 1))
			write(d.Rename("a", "b"))
		}
		if k >= 4 {
			write(d.Rename("b", "b"))
			write(d.Remove("b"))
		}
		write(d.Append("c", nil))
	}
}

func TestWithoutPower(t *testing.T) {
	d := made(t, 10)
	ok(t, d.Append("a", []byte{1, 2}))
	ok(t, d.Append("b", []byte{3}))
	ok(t, d.Sync("b"))
	ok(t, d.Stop(0))
	before := look(d)
	for range 2 {
		checkErr(t, d.Append("a", []byte{1}), api.ErrDisk)
		checkErr(t, d.Append("a", nil), api.ErrDisk)
		checkErr(t, d.Append("c", nil), api.ErrDisk)
		checkErr(t, d.Sync("a"), api.ErrDisk)
		checkErr(t, d.Cut("b", 0), api.ErrDisk)
		checkErr(t, d.Rename("b", "a"), api.ErrDisk)
		checkErr(t, d.Rename("b", "b"), api.ErrDisk)
		checkErr(t, d.Remove("a"), api.ErrDisk)
		checkErr(t, d.Append("A", nil), api.ErrArg)
		checkErr(t, d.Append("a", make([]byte, 8)), api.ErrFull)
		checkErr(t, d.Cut("c", 0), api.ErrMissing)
		checkErr(t, d.Cut("b", 2), api.ErrArg)
		checkErr(t, d.Cut("a", 1), api.ErrState)
		checkErr(t, d.Sync("c"), api.ErrMissing)
		checkErr(t, d.Rename("b", ""), api.ErrArg)
		checkErr(t, d.Rename("c", "a"), api.ErrMissing)
		checkErr(t, d.Rename("a", "c"), api.ErrState)
		checkErr(t, d.Remove("c"), api.ErrMissing)
		checkErr(t, d.Stop(-1), api.ErrArg)
		ok(t, d.Stop(5)) // it stays gone
		checkSeen(t, look(d), before)
	}
	ok(t, d.Crash([]int{1}))
	checkFile(t, d, "a", 0, 1)
	checkFile(t, d, "b", 0, 3)
	checkPower(t, d, false, 3)
	for i := range 7 { // and does not stop any more
		ok(t, d.Append("a", []byte{byte(i)}))
	}
	checkPower(t, d, false, 10)
}

func TestStopInThePlaceOfWhatWasTold(t *testing.T) {
	d := made(t, 100)
	checkErr(t, d.Stop(-1), api.ErrArg)
	checkErr(t, d.Stop(math.MinInt), api.ErrArg)
	checkPower(t, d, false, 0)
	ok(t, d.Stop(math.MaxInt))
	ok(t, d.Append("a", []byte{1}))
	ok(t, d.Stop(2))
	ok(t, d.Append("a", []byte{2}))
	checkErr(t, d.Stop(-1), api.ErrArg)
	ok(t, d.Stop(3))
	for range 3 {
		checkPower(t, d, false, d.Writes())
		ok(t, d.Sync("a"))
	}
	checkPower(t, d, true, 5)
	ok(t, d.Crash(nil))
	ok(t, d.Stop(1))
	ok(t, d.Crash(nil)) // that does not hold any more, either
	for range 3 {
		ok(t, d.Sync("a"))
	}
	ok(t, d.Stop(1))
	checkErr(t, d.Sync("b"), api.ErrMissing)
	checkErr(t, d.Append("", nil), api.ErrArg)
	checkErr(t, d.Append("a", make([]byte, 101)), api.ErrFull)
	checkErr(t, d.Cut("a", 7), api.ErrArg)
	checkPower(t, d, false, 8) // what has such an error is no write
	ok(t, d.Sync("a"))
	checkPower(t, d, true, 9)
}

func TestWhatACrashKeeps(t *testing.T) {
	for _, c := range []struct {
		torn []int
		kept [3]int
	}{
		{nil, [3]int{0, 0, 0}}, {[]int{1}, [3]int{1, 0, 0}}, {[]int{0, 1, 2}, [3]int{0, 1, 2}},
		{[]int{2, 3, 3}, [3]int{2, 3, 3}}, {[]int{9, 9, 9, 9, 9}, [3]int{3, 3, 3}},
		{[]int{-1, -7, 1}, [3]int{0, 0, 1}}, {[]int{math.MaxInt, math.MinInt, 3}, [3]int{3, 0, 3}},
		{[]int{math.MinInt, math.MaxInt}, [3]int{0, 3, 0}}, {[]int{3, -1}, [3]int{3, 0, 0}},
	} {
		d := made(t, 100)
		for _, name := range []string{"g", "e", "c", "a"} { // by their names, not as they came
			ok(t, d.Append(name, []byte(name)))
			ok(t, d.Sync(name))
		}
		ok(t, d.Append("b", nil)) // nothing of it is loose, either: no number is for it
		for i, name := range []string{"g", "c", "e"} {
			ok(t, d.Append(name, []byte{byte(i), byte(i), 7}))
		}
		torn := slices.Clone(c.torn)
		ok(t, d.Crash(torn))
		if !slices.Equal(torn, c.torn) {
			t.Fatal("torn was changed", torn, c.torn)
		}
		checkFile(t, d, "a", 0, 'a')
		checkFile(t, d, "c", 0, append([]byte{'c'}, []byte{1, 1, 7}[:c.kept[0]]...)...)
		checkFile(t, d, "e", 0, append([]byte{'e'}, []byte{2, 2, 7}[:c.kept[1]]...)...)
		checkFile(t, d, "g", 0, append([]byte{'g'}, []byte{0, 0, 7}[:c.kept[2]]...)...)
		checkNames(t, d, "a", "b", "c", "e", "g")
		checkUsed(t, d, 4+c.kept[0]+c.kept[1]+c.kept[2])
	}
}

func TestWhichFilesAreGone(t *testing.T) {
	d := made(t, 100)
	ok(t, d.Append("cut", nil))
	ok(t, d.Cut("cut", 0))
	ok(t, d.Append("first", nil))
	ok(t, d.Rename("first", "renamed"))
	ok(t, d.Append("synced", nil))
	ok(t, d.Sync("synced"))
	ok(t, d.Append("once", nil))
	ok(t, d.Sync("once"))
	ok(t, d.Rename("once", "twice"))
	ok(t, d.Append("never", nil))
	ok(t, d.Append("kept", nil))
	ok(t, d.Append("same", nil))
	ok(t, d.Rename("same", "same")) // which changes nothing
	ok(t, d.Append("gone", []byte{1}))
	ok(t, d.Sync("gone"))
	ok(t, d.Remove("gone"))
	ok(t, d.Append("empty", nil)) // of which nothing is loose
	for _, name := range []string{"cut", "renamed", "synced", "twice", "never", "kept", "same", "gone", "first"} {
		ok(t, d.Append(name, []byte{1, 2}))
	}
	ok(t, d.Crash([]int{0, -1, 0, 1}))
	checkNames(t, d, "cut", "empty", "kept", "renamed", "synced", "twice")
	checkFile(t, d, "kept", 0, 1)
	for _, name := range []string{"cut", "empty", "renamed", "synced", "twice"} {
		checkFile(t, d, name, 0)
	}
	ok(t, d.Append("kept", []byte{3}))
	ok(t, d.Append("renamed", []byte{3}))
	ok(t, d.Append("empty", []byte{3}))
	ok(t, d.Crash(nil)) // what a crash kept is safe
	checkNames(t, d, "cut", "kept", "renamed", "synced", "twice")
	checkFile(t, d, "kept", 0, 1)
	ok(t, d.Append("twice", []byte{1}))
	ok(t, d.Append("other", []byte{1}))
	ok(t, d.Rename("cut", "other")) // whatever other was
	ok(t, d.Append("other", []byte{2}))
	ok(t, d.Crash(nil))
	checkNames(t, d, "kept", "other", "renamed", "synced", "twice")
}

// A file is another one, if it was removed, or renamed away, and made anew.
func TestFilesMadeAnew(t *testing.T) {
	d := made(t, 100)
	ok(t, d.Append("a", []byte{1}))
	ok(t, d.Sync("a"))
	ok(t, d.Rename("a", "b"))
	ok(t, d.Append("a", []byte{2}))
	ok(t, d.Append("b", []byte{3}))
	ok(t, d.Crash([]int{0, 1}))
	checkNames(t, d, "b")
	checkFile(t, d, "b", 0, 1, 3)
}

func TestClone(t *testing.T) {
	d := made(t, 10)
	ok(t, d.Append("a", []byte{1, 2}))
	ok(t, d.Sync("a"))
	ok(t, d.Append("a", []byte{3}))
	ok(t, d.Append("b", nil))
	ok(t, d.Sync("b"))
	ok(t, d.Stop(2))
	before := look(d)
	c := d.Clone()
	checkSeen(t, look(c), before)
	ok(t, c.Append("a", []byte{4}))
	ok(t, c.Append("b", []byte{5}))
	checkErr(t, c.Sync("a"), api.ErrDisk)
	checkSeen(t, look(d), before)
	ok(t, d.Append("a", []byte{6}))
	ok(t, d.Remove("b"))
	checkPower(t, d, true, 7)
	checkFile(t, c, "a", 2, 1, 2, 3, 4)
	checkNames(t, c, "a", "b")
	e := c.Clone() // without power, as that is
	checkPower(t, e, true, 7)
	checkErr(t, e.Sync("a"), api.ErrDisk)
	ok(t, e.Crash([]int{1}))
	checkNames(t, e, "a", "b") // b was synced
	checkFile(t, c, "b", 1, 5)
	checkPower(t, c, true, 7)
	ok(t, c.Crash(nil))
	checkFile(t, c, "a", 0, 1, 2)
	checkFile(t, e, "a", 0, 1, 2, 3)
	checkFile(t, d, "a", 2, 1, 2, 3, 6)
}

// Rule 5

func TestNoDisk(t *testing.T) {
	byHand := *made(t, 10)
	for _, d := range []*disk.Disk{nil, new(disk.Disk), {}, &byHand} {
		checkErr(t, d.Append("", make([]byte, 11)), api.ErrNil)
		checkErr(t, d.Append("a", nil), api.ErrNil)
		checkErr(t, d.Cut("a", -1), api.ErrNil)
		checkErr(t, d.Sync("a"), api.ErrNil)
		checkErr(t, d.Rename("a", ""), api.ErrNil)
		checkErr(t, d.Remove("a"), api.ErrNil)
		checkErr(t, d.Stop(-1), api.ErrNil)
		checkErr(t, d.Stop(0), api.ErrNil)
		checkErr(t, d.Crash([]int{1}), api.ErrNil)
		if b, err := d.Read("a"); len(b) != 0 || err != api.ErrNil {
			t.Error("Read", b, err)
		}
		if d.Clone() != nil || len(d.Names()) != 0 || d.Used() != 0 || d.Size() != 0 || d.Loose("a") != 0 || d.Stopped() || d.Writes() != 0 {
			t.Error("of no disk something is told")
		}
	}
}

// Rule 4: what is handed in is not kept, what is told is not shared, and no spare room is written or read.
func TestMemoryOfItsOwn(t *testing.T) {
	d := made(t, 100)
	whole := []byte{1, 2, 3, 4, 5, 6}
	b := whole[:3]
	ok(t, d.Append("a", b))
	ok(t, d.Append("a", b))
	if !bytes.Equal(whole, []byte{1, 2, 3, 4, 5, 6}) {
		t.Fatal("spare room was written", whole)
	}
	clear(whole)
	checkFile(t, d, "a", 6, 1, 2, 3, 1, 2, 3)
	one, _ := d.Read("a")
	two, _ := d.Read("a")
	clear(one[:cap(one)])
	checkFile(t, d, "a", 6, 1, 2, 3, 1, 2, 3)
	ok(t, d.Append("a", []byte{7, 8, 9}))
	clear(one[:cap(one)])
	checkFile(t, d, "a", 9, 1, 2, 3, 1, 2, 3, 7, 8, 9)
	if !bytes.Equal(two, []byte{1, 2, 3, 1, 2, 3}) {
		t.Error("two answers share memory", two)
	}
	ok(t, d.Append("b", nil))
	ok(t, d.Sync("b"))
	names := d.Names()
	names[0] = "z"
	clear(names[:cap(names)])
	checkNames(t, d, "a", "b")
	torn, all := []int{1, 9, 9}, []int{9, 9, 9}
	ok(t, d.Append("b", []byte{1, 2}))
	ok(t, d.Crash(torn[:1])) // what stands behind torn's end is no number of it
	checkNames(t, d, "a", "b")
	checkFile(t, d, "a", 0, 1)
	checkFile(t, d, "b", 0)
	if !slices.Equal(torn[1:], all[1:]) {
		t.Error("spare room was written", torn)
	}
}

// The names that a disk keeps, and those that it tells, are its own.
func TestNamesOfItsOwn(t *testing.T) {
	d := made(t, 100)
	memory := []byte("abba")
	a, b := unsafe.String(&memory[0], 1), unsafe.String(&memory[1], 1)
	calls := []func() api.Errno{
		func() api.Errno { return d.Append(a, []byte{1}) },
		func() api.Errno { return d.Append(a, []byte{2}) },
		func() api.Errno { return d.Sync(a) },
		func() api.Errno { return d.Cut(a, 1) },
		func() api.Errno { return d.Rename(a, a) },
		func() api.Errno { return d.Rename(a, b) },
		func() api.Errno { return d.Rename(b, a) },
		func() api.Errno { return d.Append(a, []byte{3}) },
		func() api.Errno { return d.Crash([]int{1}) },
	}
	for i, call := range calls {
		copy(memory, "abba")
		ok(t, call())
		copy(memory, "zzzz")
		want := "a"
		if i == 5 {
			want = "b"
		}
		checkNames(t, d, want)
		checkNames(t, d.Clone(), want)
		told := d.Names()
		*unsafe.StringData(told[0]) = 'y'
		checkNames(t, d, want)
	}
	checkFile(t, d, "a", 0, 1, 3)
}
