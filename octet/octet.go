// Package octet is layer 1: numbers, digits and words as bytes: see shared/doc/01-octet.md.
package octet

import (
	"bytes"
	"math"
	"strings"

	"assize/api"
)

// A digit's value is its place in this text; those of decimal numbers are its first ten.
const digits = "0123456789abcdef"

// Bytes tells a number's bytes, so many.
func Bytes(n uint64, size int) ([]byte, api.Errno) {
	if size < 1 || size > 8 || n>>(8*size) != 0 {
		return nil, api.ErrArg
	}
	var b []byte
	for size > 0 {
		size--
		b = append(b, byte(n>>(8*size)))
	}
	return b, api.OK
}

// Number reads a number's bytes.
func Number(b []byte) (uint64, api.Errno) {
	if len(b) < 1 || len(b) > 8 {
		return 0, api.ErrBytes
	}
	n := uint64(0)
	for _, c := range b {
		n = n<<8 | uint64(c)
	}
	return n, api.OK
}

// Short tells a number's shortest bytes.
func Short(n uint64) []byte {
	var b []byte
	for n >= 128 {
		b = append(b, byte(n)|128)
		n >>= 7
	}
	return append(b, byte(n))
}

// ReadShort reads these, and tells how many they are.
func ReadShort(b []byte) (uint64, int, api.Errno) {
	n := uint64(0)
	for i, c := range b {
		group := uint64(c & 127)
		// Bits that do not come back were shifted out: the number is not below 2^64.
		if group<<(7*i)>>(7*i) != group {
			return 0, 0, api.ErrBytes
		}
		n |= group << (7 * i)
		if c >= 128 {
			continue
		}
		// A last group of 0 behind others could be left out: these are not the shortest bytes.
		if c == 0 && i > 0 {
			return 0, 0, api.ErrBytes
		}
		return n, i + 1, api.OK
	}
	return 0, 0, api.ErrBytes
}

// Dec tells a number's digits.
func Dec(n int) string {
	// The least int has no counterpart above 0, but its wrap-round is right as a uint64.
	left := uint64(n)
	if n < 0 {
		left = -left
	}
	var back []byte
	for left >= 10 {
		back = append(back, digits[left%10])
		left /= 10
	}
	back = append(back, digits[left])
	if n < 0 {
		back = append(back, '-')
	}
	var b []byte
	for i := len(back) - 1; i >= 0; i-- {
		b = append(b, back[i])
	}
	return string(b)
}

// ReadDec reads digits, of a number up to a bound.
func ReadDec(s string, most int) (int, api.Errno) {
	if most < 0 {
		return 0, api.ErrArg
	}
	n, ok := readDigits(s)
	if !ok {
		return 0, api.ErrBytes
	}
	if n > uint64(most) {
		return 0, api.ErrLong
	}
	return int(n), api.OK
}

// readDigits reads the digits of a number from 0 to 2^63 - 1.
func readDigits(s string) (uint64, bool) {
	if s == "" || s[0] == '0' && len(s) > 1 {
		return 0, false
	}
	n := uint64(0)
	for rest := s; rest != ""; rest = rest[1:] {
		d := strings.IndexByte(digits[:10], rest[0])
		if d < 0 || n > (math.MaxInt64-uint64(d))/10 {
			return 0, false
		}
		n = n*10 + uint64(d)
	}
	return n, true
}

// Hex tells bytes' digits.
func Hex(b []byte) string {
	var s []byte
	for _, c := range b {
		s = append(s, digits[c>>4], digits[c&15])
	}
	return string(s)
}

// ReadHex reads bytes' digits.
func ReadHex(s string) ([]byte, api.Errno) {
	if len(s)%2 != 0 {
		return nil, api.ErrBytes
	}
	var b []byte
	for rest := s; rest != ""; rest = rest[2:] {
		high, low := strings.IndexByte(digits, rest[0]), strings.IndexByte(digits, rest[1])
		if high < 0 || low < 0 {
			return nil, api.ErrBytes
		}
		b = append(b, byte(high<<4|low))
	}
	return b, api.OK
}

// Words cuts a line into words.
func Words(s string) ([]string, api.Errno) {
	if !isLine(s) {
		return nil, api.ErrBytes
	}
	if strings.Count(s, " ") >= api.MaxWords {
		return nil, api.ErrLong
	}
	// Of bytes, so that each word is new memory.
	var words []string
	rest, more := []byte(s), true
	for more {
		var word []byte
		word, rest, more = bytes.Cut(rest, []byte{' '})
		words = append(words, string(word))
	}
	return words, api.OK
}

// isLine tells whether there are words, with one blank between two of them, and no odd byte.
func isLine(s string) bool {
	blank := true
	for i := range len(s) {
		if s[i] < 32 || s[i] > 126 || s[i] == ' ' && blank {
			return false
		}
		blank = s[i] == ' '
	}
	return !blank
}

// Fields tells fields as one text.
func Fields(l [][]byte) ([]byte, api.Errno) {
	if len(l) > api.MaxFields {
		return nil, api.ErrLong
	}
	text := Short(uint64(len(l)))
	for _, field := range l {
		text = append(text, Short(uint64(len(field)))...)
		// Asked ahead of copying, so that no more memory is taken than a text may have.
		if len(field) > api.MaxBytes-len(text) {
			return nil, api.ErrLong
		}
		text = append(text, field...)
	}
	return text, api.OK
}

// ReadFields reads them. It reads no text that Fields would not tell: what is read is told again.
func ReadFields(b []byte) ([][]byte, api.Errno) {
	if len(b) > api.MaxBytes {
		return nil, api.ErrBytes
	}
	count, size, err := ReadShort(b)
	if err != api.OK || count > api.MaxFields {
		return nil, api.ErrBytes
	}
	rest := b[size:]
	var l [][]byte
	for range count {
		length, size, err := ReadShort(rest)
		if err != api.OK || length > uint64(len(rest)-size) {
			return nil, api.ErrBytes
		}
		rest = rest[size:]
		l = append(l, append([]byte{}, rest[:length]...))
		rest = rest[length:]
	}
	if len(rest) > 0 {
		return nil, api.ErrBytes
	}
	return l, api.OK
}
