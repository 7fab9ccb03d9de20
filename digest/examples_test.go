package digest_test

import (
	"strings"
	"testing"

	"assize/api"
	"assize/digest"
)

// The table of the chapter, line by line.
func TestExamples(t *testing.T) {
	nothing := "e3b0c442 98fc1c14 9afbf4c8 996fb924 27ae41e4 649b934c a495991b 7852b855"
	abc := "ba7816bf 8f01cfea 414140de 5dae2223 b00361a3 96177a9c b410ff61 f20015ad"
	h := digest.New()
	errA, errBC := h.Write([]byte("a")), h.Write([]byte("bc"))
	for _, x := range []struct {
		call string
		got  api.Digest
		want string
	}{
		{"Sum of nothing", digest.Sum(nil), nothing},
		{"Sum of abc", digest.Sum([]byte("abc")), abc},
		{"New, Write a, Write bc, Sum", h.Sum(), abc},
		{"Join of none", digest.Join(nil), nothing},
	} {
		if got, want := digest.Text(x.got), strings.ReplaceAll(x.want, " ", ""); got != want {
			t.Errorf("%s: %s", x.call, got)
		}
	}
	if errA != api.OK || errBC != api.OK || h.Len() != 3 {
		t.Error("New, Write a, Write bc; Len:", errA, errBC, h.Len())
	}
	if digest.Join([][]byte{{}}) != digest.Sum([]byte{0, 0, 0, 0, 0, 0, 0, 0}) {
		t.Error("Join of one empty part")
	}
	if d, err := digest.Parse(strings.Repeat("0", 63)); d != (api.Digest{}) || err != api.ErrBytes {
		t.Error("Parse of 63 digits:", d, err)
	}
	if d, err := digest.Parse(strings.Repeat("0", 63) + "A"); d != (api.Digest{}) || err != api.ErrBytes {
		t.Error("Parse of 64 digits with an A:", d, err)
	}
}
