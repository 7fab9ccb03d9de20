package frame

import (
	"bytes"

	"assize/api"
)

// Scan reads frames, as many as there are, and tells how what stands behind them is.
func Scan(b []byte) ([][]byte, int, int) {
	var records [][]byte
	left := b
	for {
		f, how := front(left)
		if f == nil {
			return records, len(b) - len(left), how
		}
		records = append(records, record(f))
		left = left[len(f):]
	}
}

// One reads bytes that are just one frame.
func One(b []byte) ([]byte, api.Errno) {
	f, _ := front(b)
	if f == nil || len(f) < len(b) {
		return nil, api.ErrBytes
	}
	return record(f), api.OK
}

// front cuts off the frame at the front of bytes; if there is none that is whole, it tells how they are.
func front(b []byte) ([]byte, int) {
	if len(b) == 0 {
		return nil, api.Whole
	}
	// Ahead of its second number a length is not to be trusted, however great.
	if len(b) < head {
		return nil, api.Torn
	}
	length := read(b[:word:word])
	if read(b[word:head:head]) != ^length || length > api.MaxRecord {
		return nil, api.Bad
	}
	size := Size(int(length))
	if len(b) < size {
		return nil, api.Torn
	}
	f := b[:size:size]
	if read(f[size-word:]) != Check(inner(f)) {
		return nil, api.Bad
	}
	return f, api.Whole
}

// inner tells where a frame's record stands, in the frame's own memory.
func inner(f []byte) []byte {
	end := len(f) - word
	return f[head:end:end]
}

// record tells a frame's record, in memory of its own.
func record(f []byte) []byte { return bytes.Clone(inner(f)) }
