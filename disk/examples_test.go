package disk_test

import (
	"bytes"
	"slices"
	"testing"

	"assize/api"
	"assize/disk"
)

// made makes a disk.
func made(t testing.TB, size int) *disk.Disk {
	t.Helper()
	d, err := disk.New(size)
	if d == nil || err != api.OK {
		t.Fatalf("New(%d): %v", size, err)
	}
	return d
}

// checkErr fails if an error is not the one that is asked for.
func checkErr(t testing.TB, got, want api.Errno) {
	t.Helper()
	if got != want {
		t.Fatalf("error %d, not %d", got, want)
	}
}

// ok fails if an error is none.
func ok(t testing.TB, got api.Errno) {
	t.Helper()
	checkErr(t, got, api.OK)
}

// checkFile fails if a file has not these bytes, so many of them loose.
func checkFile(t testing.TB, d *disk.Disk, name string, loose int, want ...byte) {
	t.Helper()
	got, err := d.Read(name)
	if err != api.OK || !bytes.Equal(got, want) {
		t.Fatalf("Read(%q) = %v, %v; not %v", name, got, err, want)
	}
	if n := d.Loose(name); n != loose {
		t.Fatalf("Loose(%q) = %d, not %d", name, n, loose)
	}
}

// checkNames fails if a disk has not just these files.
func checkNames(t testing.TB, d *disk.Disk, want ...string) {
	t.Helper()
	if got := d.Names(); !slices.Equal(got, want) {
		t.Fatalf("Names() = %q, not %q", got, want)
	}
}

// checkUsed fails if a disk's files have not so many bytes together.
func checkUsed(t testing.TB, d *disk.Disk, want int) {
	t.Helper()
	if got := d.Used(); got != want {
		t.Fatalf("Used() = %d, not %d", got, want)
	}
}

// checkPower fails if the power is not as it is asked for, or another number of writes was done.
func checkPower(t testing.TB, d *disk.Disk, stopped bool, writes int) {
	t.Helper()
	if d.Stopped() != stopped || d.Writes() != writes {
		t.Fatalf("Stopped() = %v, Writes() = %d; not %v, %d", d.Stopped(), d.Writes(), stopped, writes)
	}
}

// The chapter's examples, line by line.
func TestExamples(t *testing.T) {
	d := made(t, 10)
	ok(t, d.Append("a", []byte{1, 2}))
	ok(t, d.Sync("a"))
	ok(t, d.Append("a", []byte{3, 4}))
	checkFile(t, d, "a", 2, 1, 2, 3, 4)
	checkUsed(t, d, 4)

	ok(t, d.Crash([]int{1}))
	checkFile(t, d, "a", 0, 1, 2, 3)

	ok(t, d.Append("b", []byte{9}))
	ok(t, d.Crash(nil))
	checkNames(t, d, "a")

	checkErr(t, d.Append("a", make([]byte, 8)), api.ErrFull)
	checkErr(t, d.Cut("a", 9), api.ErrArg)
	ok(t, d.Cut("a", 1))
	ok(t, d.Rename("a", "c"))
	checkFile(t, d, "c", 0, 1)

	ok(t, d.Stop(1))
	ok(t, d.Append("c", []byte{5}))
	checkPower(t, d, true, 7)
	checkErr(t, d.Sync("c"), api.ErrDisk)
	checkFile(t, d, "c", 1, 1, 5)
	ok(t, d.Crash([]int{9}))
	checkFile(t, d, "c", 0, 1, 5)

	checkErr(t, d.Append("C", []byte{1}), api.ErrArg)
	_, err := disk.New(0)
	checkErr(t, err, api.ErrArg)
	checkErr(t, d.Sync("x"), api.ErrMissing)
}
