package frame_test

import (
	"bytes"
	"encoding/binary"
	"hash/crc32"
	"testing"

	"assize/api"
	"assize/frame"
)

// most is how many bytes a record may have.
const most = 65536

// secondCheck tells the check of bytes, by the library's own.
func secondCheck(b []byte) uint32 { return crc32.Checksum(b, crc32.MakeTable(crc32.Castagnoli)) }

// secondFrame tells a record's frame.
func secondFrame(record []byte) []byte {
	f := binary.BigEndian.AppendUint32(nil, uint32(len(record)))
	f = binary.BigEndian.AppendUint32(f, uint32(-1-len(record)))
	return binary.BigEndian.AppendUint32(append(f, record...), secondCheck(record))
}

// secondFirst tells the record of the frame with which bytes begin, by writing that frame, and whether there is one.
func secondFirst(b []byte) ([]byte, bool) {
	if len(b) < 12 {
		return nil, false
	}
	n := int(b[0])<<24 | int(b[1])<<16 | int(b[2])<<8 | int(b[3])
	if n > most || n > len(b)-12 {
		return nil, false
	}
	record := b[8 : 8+n]
	return record, bytes.HasPrefix(b, secondFrame(record))
}

// secondEnd tells how bytes are that begin with no frame.
func secondEnd(b []byte) int {
	switch {
	case len(b) == 0:
		return api.Whole
	case len(b) < 8:
		return api.Torn
	}
	n := int(binary.BigEndian.Uint32(b))
	for i := range 4 {
		if b[i]+b[4+i] != 255 {
			return api.Bad
		}
	}
	// All its bytes are there, so what is wrong can only be the check.
	if n > most || len(b) >= n+12 {
		return api.Bad
	}
	return api.Torn
}

// secondScan reads frames, and tells how many bytes they have, and how what stands behind is.
func secondScan(b []byte) ([][]byte, int, int) {
	var records [][]byte
	size := 0
	for {
		record, there := secondFirst(b[size:])
		if !there {
			return records, size, secondEnd(b[size:])
		}
		records = append(records, record)
		size += len(secondFrame(record))
	}
}

// againstSecond fails if bytes are scanned, or read as one frame, otherwise than by the second reader.
func againstSecond(t testing.TB, b []byte) ([][]byte, int, int) {
	t.Helper()
	records, size, how := secondScan(b)
	checkScan(t, b, records, size, how)
	if len(records) > 0 && len(b) == len(secondFrame(records[0])) {
		checkOne(t, b, records[0])
	} else {
		checkNone(t, b)
	}
	return records, size, how
}

// againstSecondWriter fails if a record's check or frame is another one than the second writer's.
func againstSecondWriter(t testing.TB, record []byte) {
	t.Helper()
	if got, want := frame.Check(record), secondCheck(record); got != want {
		t.Fatalf("Check of %v: %x, not %x", short(record), got, want)
	}
	if len(record) > most {
		if f, err := frame.Frame(record); err != api.ErrLong || len(f) != 0 {
			t.Fatalf("Frame of %d bytes: %v, %d", len(record), short(f), err)
		}
		return
	}
	if got, want := framed(t, record...), secondFrame(record); !bytes.Equal(got, want) || frame.Size(len(record)) != len(want) {
		t.Fatalf("Frame of %v: %v, not %v", short(record), short(got), short(want))
	}
}
