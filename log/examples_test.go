package log_test

import (
	"bytes"
	"slices"
	"testing"

	"assize/api"
	"assize/disk"
	"assize/log"
)

// made makes a disk.
func made(t testing.TB, size int) *disk.Disk {
	t.Helper()
	d, err := disk.New(size)
	if err != api.OK {
		t.Fatalf("New(%d): %v", size, err)
	}
	return d
}

// checkErr fails if an error is not the one that is asked for.
func checkErr(t testing.TB, got, want api.Errno) {
	t.Helper()
	if got != want {
		t.Fatalf("error %d, not %d", got, want)
	}
}

// ok fails if an error is one.
func ok(t testing.TB, got api.Errno) {
	t.Helper()
	checkErr(t, got, api.OK)
}

// sameRecords tells whether two lists have the same records.
func sameRecords(a, b [][]byte) bool { return slices.EqualFunc(a, b, bytes.Equal) }

// opened opens a log, which must have these records.
func opened(t testing.TB, d *disk.Disk, name string, reserve int, want ...[]byte) *log.Log {
	t.Helper()
	l, records, err := log.Open(d, name, reserve)
	if l == nil || err != api.OK || !sameRecords(records, want) {
		t.Fatalf("Open(%q, %d) = %v, %v, %v; not %v", name, reserve, l, records, err, want)
	}
	size := 0
	for _, record := range records {
		size += len(record) + 12
	}
	checkLog(t, l, len(records), size, false)
	return l
}

// checkRefused fails if a log is opened, or refused by another error.
func checkRefused(t testing.TB, d *disk.Disk, name string, reserve int, want api.Errno) {
	t.Helper()
	if l, records, err := log.Open(d, name, reserve); l != nil || records != nil || err != want {
		t.Fatalf("Open(%q, %d) = %v, %v, %v; not %v", name, reserve, l, records, err, want)
	}
}

// checkLog fails if a log has not so many records and bytes, or is broken or not otherwise.
func checkLog(t testing.TB, l *log.Log, count, size int, broken bool) {
	t.Helper()
	if l.Len() != count || l.Size() != size || l.Broken() != broken {
		t.Fatalf("%d records, %d bytes, %v; not %d, %d, %v", l.Len(), l.Size(), l.Broken(), count, size, broken)
	}
}

// checkRoom fails if a record of so many bytes is not the longest that fits.
func checkRoom(t testing.TB, l *log.Log, n int) {
	t.Helper()
	if n >= 0 && !l.Fits(n) || l.Fits(n+1) {
		t.Fatalf("Fits(%d), Fits(%d) = %v, %v", n, n+1, l.Fits(n), l.Fits(n+1))
	}
}

// The chapter's examples, line by line.
func TestExamples(t *testing.T) {
	d := made(t, 100)
	l := opened(t, d, "l", 40)
	ok(t, l.Commit([]byte{1, 2}))
	checkRoom(t, l, 14)
	checkErr(t, l.Commit(make([]byte, 15)), api.ErrQuota)
	checkLog(t, l, 1, 14, false)
	ok(t, d.Stop(1))
	checkErr(t, l.Commit([]byte{3}), api.ErrDisk)
	checkLog(t, l, 1, 14, true)
	checkErr(t, l.Commit([]byte{3}), api.ErrBroken)
	other := d.Clone()
	ok(t, d.Crash([]int{5}))
	opened(t, d, "l", 40, []byte{1, 2})
	ok(t, other.Crash([]int{13}))
	opened(t, other, "l", 40, []byte{1, 2}, []byte{3})
	checkRefused(t, d, "L", 40, api.ErrArg)
	checkRefused(t, d, "l", 0, api.ErrArg)
}
