package digest_test

import (
	"bytes"
	"crypto/sha256"
	"encoding/binary"
	"encoding/hex"
	"slices"
	"strings"
	"testing"

	"assize/api"
	"assize/digest"
)

// message tells so many bytes, hardly two neighbours alike.
func message(size int) []byte {
	b := make([]byte, size)
	for i := range b {
		b[i] = byte(i*i*7 + i*131 + i>>8)
	}
	return b
}

// write fails if a hash does not take bytes.
func write(t *testing.T, h *digest.Hash, b []byte) {
	t.Helper()
	if err := h.Write(b); err != api.OK {
		t.Fatalf("Write of %d bytes: %v", len(b), err)
	}
}

// check fails if a hash is not of just these bytes.
func check(t *testing.T, h *digest.Hash, b []byte) {
	t.Helper()
	if h.Len() != len(b) || h.Sum() != sha256.Sum256(b) {
		t.Errorf("%d bytes: %d, %x", len(b), h.Len(), h.Sum())
	}
}

// P2.1

func TestSumOfKnownMessages(t *testing.T) {
	for _, x := range []struct{ message, want string }{
		{"", "e3b0c44298fc1c149afbf4c8996fb92427ae41e4649b934ca495991b7852b855"},
		{"abc", "ba7816bf8f01cfea414140de5dae2223b00361a396177a9cb410ff61f20015ad"},
		{
			"abcdbcdecdefdefgefghfghighijhijkijkljklmklmnlmnomnopnopq",
			"248d6a61d20638b8e5c026930c3e6039a33ce45964ff2167f6ecedd419db06c1",
		},
		{
			"abcdefghbcdefghicdefghijdefghijkefghijklfghijklmghijklmnhijklmnoijklmnopjklmnopqklmnopqrlmnopqrsmnopqrstnopqrstu",
			"cf5b16a778af8380036ce59e7b0492370b249b11e8f07a51afac45037afee9d1",
		},
		{strings.Repeat("a", 1000000), "cdc76e5c9914fb9281a1c7e284d73e67f1809a48a497200e046d39ccc7112cd0"},
	} {
		if got := digest.Sum([]byte(x.message)); hex.EncodeToString(got[:]) != x.want {
			t.Errorf("%d bytes: %x", len(x.message), got)
		}
	}
}

func TestSumOfEachLength(t *testing.T) {
	for size := range 600 {
		for _, b := range [][]byte{message(size), make([]byte, size), bytes.Repeat([]byte{255}, size)} {
			if got := digest.Sum(b); got != sha256.Sum256(b) {
				t.Errorf("%d bytes: %x", size, got)
			}
		}
	}
	for _, size := range []int{1<<13 - 1, 1 << 13, 1<<13 + 1, 1<<16 - 9, 1 << 16, 1<<21 + 57} {
		if b := message(size); digest.Sum(b) != sha256.Sum256(b) {
			t.Errorf("%d bytes", size)
		}
	}
}

// A message of 2^29 bytes is the first whose length in bits has more than 32 bits.
func TestSumOfALongMessage(t *testing.T) {
	h, want := digest.New(), sha256.New()
	piece := message(1 << 20)
	put := func(b []byte) {
		write(t, h, b)
		want.Write(b)
		if got := h.Sum(); !bytes.Equal(got[:], want.Sum(nil)) {
			t.Errorf("%d bytes: %x", h.Len(), got)
		}
	}
	for range 511 {
		put(piece)
	}
	put(piece[:1<<20-1])
	put(piece[:1])
	put(piece[:70])
	if h.Len() != 1<<29+70 {
		t.Error(h.Len())
	}
}

func TestNewHashHasNoBytes(t *testing.T) {
	h, other := digest.New(), digest.New()
	check(t, h, nil)
	write(t, h, nil)
	write(t, h, []byte{})
	check(t, h, nil)
	write(t, h, message(100))
	check(t, h, message(100))
	check(t, other, nil)
	check(t, digest.New(), nil)
}

func TestWriteByteByByte(t *testing.T) {
	h, all := digest.New(), message(400)
	for i := range all {
		check(t, h, all[:i])
		write(t, h, all[i:i+1])
	}
	check(t, h, all)
}

func TestSumChangesNothing(t *testing.T) {
	all := message(300)
	for size := range 200 {
		h := digest.New()
		write(t, h, all[:size])
		first := h.Sum()
		if h.Sum() != first || h.Sum() != first || h.Len() != size {
			t.Errorf("%d bytes: %x, then %x", size, first, h.Sum())
		}
		write(t, h, all[size:])
		check(t, h, all)
	}
}

func TestCloneIsAHashOfItsOwn(t *testing.T) {
	all, others := message(300), bytes.Repeat([]byte{9}, 100)
	for size := range 200 {
		h := digest.New()
		write(t, h, all[:size])
		c := h.Clone()
		check(t, c, all[:size])
		write(t, h, all[size:])
		check(t, c, all[:size])
		write(t, c, others)
		check(t, h, all)
		check(t, c, slices.Concat(all[:size], others))
		again := c.Clone()
		write(t, again, others)
		check(t, c, slices.Concat(all[:size], others))
		check(t, again, slices.Concat(all[:size], others, others))
	}
}

// Rule 5: those that are nil, and those that nobody made; a refused Write makes none of them.
func TestNoHash(t *testing.T) {
	var zero digest.Hash
	clone := digest.New().Clone()
	*clone = digest.Hash{}
	for _, h := range []*digest.Hash{nil, {}, &zero, new(digest.Hash), clone} {
		for _, b := range [][]byte{nil, {}, message(3), message(64), message(200)} {
			if err := h.Write(b); err != api.ErrNil {
				t.Errorf("Write of %d bytes: %v", len(b), err)
			}
			if h.Sum() != (api.Digest{}) || h.Len() != 0 || h.Clone() != nil {
				t.Errorf("%x, %d, %v", h.Sum(), h.Len(), h.Clone())
			}
		}
	}
}

func TestWhatIsHandedInIsLeftAlone(t *testing.T) {
	whole := message(400)
	for _, size := range []int{0, 1, 55, 56, 63, 64, 65, 128, 200} {
		b := slices.Clone(whole)
		part := b[:size] // with spare room behind it
		h := digest.New()
		write(t, h, part)
		want := sha256.Sum256(whole[:size])
		if digest.Sum(part) != want || h.Sum() != want || !digest.Token(part, want) {
			t.Errorf("%d bytes with spare room", size)
		}
		parts := [][]byte{part, part, whole}
		if digest.Join(parts[:2]) != joined([][]byte{whole[:size], whole[:size]}) || !bytes.Equal(parts[2], whole) {
			t.Errorf("%d bytes joined", size)
		}
		if !bytes.Equal(b, whole) {
			t.Errorf("%d bytes were changed", size)
		}
		clear(b)
		check(t, h, whole[:size])
	}
}

// P2.2

// joined tells the digest of parts joined, by the library.
func joined(parts [][]byte) api.Digest {
	var b []byte
	for _, part := range parts {
		b = binary.BigEndian.AppendUint64(b, uint64(len(part)))
		b = append(b, part...)
	}
	return sha256.Sum256(b)
}

// lists tells lists of parts, no two of them alike, many of them of the same bytes.
func lists() [][][]byte {
	l := [][][]byte{nil, {make([]byte, 8)}, {make([]byte, 16)}, {make([]byte, 8), nil}, {nil, make([]byte, 8)}}
	for count := 1; count < 20; count++ {
		l = append(l, make([][]byte, count))
	}
	for size := 1; size < 80; size++ {
		b := message(size)
		l = append(l, [][]byte{b}, [][]byte{b, nil}, [][]byte{nil, b}, [][]byte{b, b})
		for cut := 1; cut < size; cut++ {
			l = append(l, [][]byte{b[:cut], b[cut:]})
		}
	}
	for _, size := range []int{255, 256, 257, 65535, 65536, 65537, 1 << 20} {
		l = append(l, [][]byte{message(size)}, [][]byte{{1}, message(size), {2}})
	}
	// What one part has may look like two, their lengths among it.
	return append(l, [][]byte{{0, 0, 0, 0, 0, 0, 0, 1, 5}}, [][]byte{{7, 0, 0, 0, 0, 0, 0, 0, 1, 5}}, [][]byte{{7}, {5}})
}

func TestJoin(t *testing.T) {
	for _, parts := range lists() {
		if got := digest.Join(parts); got != joined(parts) {
			t.Errorf("%d parts: %x", len(parts), got)
		}
	}
	if digest.Join([][]byte{}) != digest.Sum(nil) || digest.Join([][]byte{nil}) != digest.Join([][]byte{{}}) {
		t.Error("nil and empty are not the same")
	}
}

func TestSame(t *testing.T) {
	for _, a := range []api.Digest{{}, digest.Sum(nil), digest.Sum(message(9))} {
		if b := a; !digest.Same(a, b) {
			t.Errorf("%x is not the same", a)
		}
		for i := range 256 {
			b := a
			b[i/8] ^= 1 << (i % 8)
			if digest.Same(a, b) || digest.Same(b, a) {
				t.Errorf("bit %d is not seen", i)
			}
			for j := range i {
				c := b
				c[j/8] ^= 1 << (j % 8)
				if digest.Same(a, c) || digest.Same(c, a) {
					t.Errorf("bits %d and %d are not seen", i, j)
				}
			}
		}
		b := a
		for i := range b {
			b[i] ^= 255
		}
		if digest.Same(a, b) {
			t.Errorf("%x and %x", a, b)
		}
	}
}

func TestToken(t *testing.T) {
	tokens := [][]byte{nil, {0}, []byte("token"), []byte("Token"), []byte("token "), message(64), message(1000)}
	for i, token := range tokens {
		for j, other := range tokens {
			if got := digest.Token(token, sha256.Sum256(other)); got != (i == j) {
				t.Errorf("token %d, digest of %d: %v", i, j, got)
			}
		}
		if digest.Token(token, api.Digest{}) {
			t.Errorf("token %d has the digest of zeros", i)
		}
		// A digest is not its own token.
		if d := digest.Sum(token); digest.Token(d[:], d) {
			t.Errorf("the digest of token %d is taken for it", i)
		}
	}
}

func TestText(t *testing.T) {
	for c := range 256 {
		for i := range 32 {
			d := digest.Sum([]byte{byte(i)})
			d[i] = byte(c)
			if got := digest.Text(d); got != hex.EncodeToString(d[:]) {
				t.Errorf("%x: %s", d, got)
			}
		}
	}
	if got := digest.Text(api.Digest{}); got != strings.Repeat("0", 64) {
		t.Error(got)
	}
}

// refused fails if a text is read.
func refused(t *testing.T, s string) {
	t.Helper()
	if d, err := digest.Parse(s); d != (api.Digest{}) || err != api.ErrBytes {
		t.Errorf("Parse(%q) = %x, %v", s, d, err)
	}
}

func TestParseRefusesLengths(t *testing.T) {
	for size := range 200 {
		for _, digit := range []string{"0", "f"} {
			if size != 64 {
				refused(t, strings.Repeat(digit, size))
			}
		}
	}
	s := digest.Text(digest.Sum(nil))
	for _, x := range []string{" " + s, s + " ", s + "\n", s + s, s[1:], s[:63], s + "\x00", "0x" + s, "0x" + s[2:]} {
		refused(t, x)
	}
}

func TestParseRefusesBytes(t *testing.T) {
	s := digest.Text(digest.Sum(nil))
	for i := range s {
		for c := range 256 {
			x := s[:i] + string([]byte{byte(c)}) + s[i+1:]
			if c >= '0' && c <= '9' || c >= 'a' && c <= 'f' {
				if d, err := digest.Parse(x); err != api.OK || hex.EncodeToString(d[:]) != x {
					t.Errorf("Parse(%q) = %x, %v", x, d, err)
				}
				continue
			}
			refused(t, x)
		}
	}
	refused(t, strings.ToUpper(s))
	refused(t, strings.Repeat("é", 32))
	refused(t, s[:61]+"٣0")
}

// P2.3

func TestCutsDoNotMatter(t *testing.T) {
	for _, size := range []int{0, 1, 55, 56, 63, 64, 65, 127, 128, 129, 150} {
		all := message(size)
		for first := range size + 1 {
			for second := first; second <= size; second++ {
				h := digest.New()
				write(t, h, all[:first])
				write(t, h, all[first:second])
				write(t, h, all[second:])
				check(t, h, all)
			}
		}
	}
}

func TestParseOfTextIsTheDigest(t *testing.T) {
	for i := range 1000 {
		d := digest.Sum(message(i))
		if back, err := digest.Parse(digest.Text(d)); back != d || err != api.OK {
			t.Errorf("%x: %x, %v", d, back, err)
		}
	}
}

func TestUnlikeListsAreJoinedUnlike(t *testing.T) {
	seen := map[api.Digest]int{}
	for i, parts := range lists() {
		d := digest.Join(parts)
		if other, there := seen[d]; there {
			t.Errorf("lists %d and %d", other, i)
		}
		seen[d] = i
	}
}

func FuzzWrittenInPieces(f *testing.F) {
	f.Add([]byte("abc"), uint8(1), uint8(64))
	f.Fuzz(func(t *testing.T, b []byte, first, later uint8) {
		h := digest.New()
		rest, size := b, int(first)
		for len(rest) > 0 {
			n := min(max(size, 1), len(rest))
			write(t, h, rest[:n])
			rest, size = rest[n:], int(later)
		}
		check(t, h, b)
		if digest.Sum(b) != h.Sum() {
			t.Errorf("%x: %x", b, h.Sum())
		}
	})
}
