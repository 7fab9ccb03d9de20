package frame_test

import (
	"bytes"
	"slices"
	"testing"

	"assize/api"
	"assize/frame"
)

// framed tells a record's frame.
func framed(t testing.TB, record ...byte) []byte {
	t.Helper()
	f, err := frame.Frame(record)
	if err != api.OK {
		t.Fatalf("Frame of %d bytes: %d", len(record), err)
	}
	return f
}

// short tells the beginning of bytes, where they are many.
func short(b []byte) []byte { return b[:min(len(b), 40)] }

// sameRecords tells whether two lists have the same records.
func sameRecords(a, b [][]byte) bool { return slices.EqualFunc(a, b, bytes.Equal) }

// checkScan fails if bytes are not scanned as these records, so many bytes, and such an end.
func checkScan(t testing.TB, b []byte, records [][]byte, size, how int) {
	t.Helper()
	l, n, end := frame.Scan(b)
	if !sameRecords(l, records) || n != size || end != how {
		t.Fatalf("Scan of %v: %d records, %d, %d; not %d records, %d, %d", short(b), len(l), n, end, len(records), size, how)
	}
}

// checkOne fails if bytes are not the frame of just this record.
func checkOne(t testing.TB, b, record []byte) {
	t.Helper()
	if got, err := frame.One(b); err != api.OK || !bytes.Equal(got, record) {
		t.Fatalf("One of %v: %v, %d; not %v", short(b), short(got), err, short(record))
	}
}

// checkNone fails if bytes are read as one frame.
func checkNone(t testing.TB, b []byte) {
	t.Helper()
	if got, err := frame.One(b); err != api.ErrBytes || len(got) != 0 {
		t.Fatalf("One of %v: %v, %d", short(b), short(got), err)
	}
}

// The chapter's examples, line by line.
func TestExamples(t *testing.T) {
	if frame.Check([]byte("123456789")) != 0xE3069283 || frame.Check(nil) != 0 {
		t.Error("Check")
	}
	f := framed(t, 7)
	check := frame.Check([]byte{7})
	want := []byte{0, 0, 0, 1, 255, 255, 255, 254, 7, byte(check >> 24), byte(check >> 16), byte(check >> 8), byte(check)}
	if !bytes.Equal(f, want) {
		t.Errorf("%v, not %v", f, want)
	}
	for n, size := range map[int]int{1: 13, 65536: 65548, 65537: 0, -1: 0} {
		if got := frame.Size(n); got != size {
			t.Errorf("Size(%d) = %d, not %d", n, got, size)
		}
	}
	checkScan(t, append(slices.Clone(f), 0, 0), [][]byte{{7}}, 13, api.Torn)
	checkScan(t, []byte{0, 0, 0, 1, 255, 255, 255, 255}, nil, 0, api.Bad)
	checkScan(t, nil, nil, 0, api.Whole)
	checkOne(t, f, []byte{7})
	checkNone(t, append(slices.Clone(f), 9))
}
