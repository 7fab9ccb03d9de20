package frontier_test

import (
	"math/big"
	"slices"
	"testing"

	"assize/api"
)

// A second writer and reader, by the chapter's words: bytes are cut into numbers of any size first, and what they are of is told by their places in that list.

// secondShort tells a number's shortest bytes.
func secondShort(n int) []byte {
	if n < 128 {
		return []byte{byte(n)}
	}
	return append([]byte{byte(n%128 + 128)}, secondShort(n/128)...)
}

// secondBytes tells the bytes of some numbers.
func secondBytes(list ...int) []byte {
	var b []byte
	for _, n := range list {
		b = append(b, secondShort(n)...)
	}
	return b
}

// secondVerdictBytes tells the bytes of a verdict that may be written.
func secondVerdictBytes(v api.Verdict) []byte {
	if v.Kind == 2 {
		return append(secondBytes(2, v.How, v.Who+1, len(v.Schedule)), secondBytes(v.Schedule...)...)
	}
	return secondBytes(v.Kind)
}

// secondFrontierBytes tells the bytes of a frontier that may be written.
func secondFrontierBytes(f api.Frontier) []byte {
	b := append(secondVerdictBytes(f.Verdict), secondBytes(f.Played, f.Charged)...)
	if f.Verdict.Kind == 0 {
		b = append(b, secondBytes(len(f.Path))...)
		for i := range f.Path {
			b = append(b, secondBytes(f.Path[i], f.Back[i], f.Asleep[i])...)
		}
		b = append(b, secondBytes(f.Done)...)
	}
	return b
}

// secondNumbers cuts bytes into numbers, -1 for one above 2^62; it tells whether they are shortest bytes of numbers, and nothing else.
func secondNumbers(b []byte) ([]int, bool) {
	var list []int
	for len(b) > 0 {
		end := slices.IndexFunc(b, func(c byte) bool { return c < 128 })
		if end < 0 || end > 0 && b[end] == 0 {
			return nil, false
		}
		n := new(big.Int)
		for i := end; i >= 0; i-- {
			n.Lsh(n, 7).Add(n, big.NewInt(int64(b[i]%128)))
		}
		if n.Cmp(big.NewInt(1<<62)) > 0 {
			n = big.NewInt(-1)
		}
		list = append(list, int(n.Int64()))
		b = b[end+1:]
	}
	return list, true
}

// secondVerdict tells the verdict at the beginning of some numbers, and how many they are; 0, if there is none.
func secondVerdict(list []int) (api.Verdict, int) {
	if len(list) == 0 {
		return api.Verdict{}, 0
	}
	if list[0] != 2 {
		return api.Verdict{Kind: list[0]}, 1
	}
	if len(list) < 4 || list[3] < 0 || list[3] > len(list)-4 {
		return api.Verdict{}, 0
	}
	return api.Verdict{Kind: 2, How: list[1], Who: list[2] - 1, Schedule: list[4 : 4+list[3]]}, 4 + list[3]
}

// secondReadVerdict tells the verdict whose bytes these are, and whether there is one.
func secondReadVerdict(b []byte) (api.Verdict, bool) {
	list, ok := secondNumbers(b)
	v, size := secondVerdict(list)
	return v, ok && size > 0 && size == len(list) && secondMayBeVerdict(v)
}

// secondRead tells the frontier whose bytes these are, and whether there is one.
func secondRead(b []byte) (api.Frontier, bool) {
	list, ok := secondNumbers(b)
	v, size := secondVerdict(list)
	if !ok || size == 0 || len(list) < size+2 {
		return api.Frontier{}, false
	}
	f := api.Frontier{Verdict: v, Played: list[size], Charged: list[size+1]}
	if list = list[size+2:]; v.Kind != 0 {
		return f, len(list) == 0 && secondMayBe(f)
	}
	if len(list) < 2 || list[0] < 0 || list[0] > len(list) || len(list) != 2+3*list[0] {
		return api.Frontier{}, false
	}
	for i, n := range list[1 : len(list)-1] {
		switch i % 3 {
		case 0:
			f.Path = append(f.Path, n)
		case 1:
			f.Back = append(f.Back, n)
		case 2:
			f.Asleep = append(f.Asleep, n)
		}
	}
	f.Done = list[len(list)-1]
	return f, secondMayBe(f)
}

// secondMayBeVerdict tells whether a verdict may be written.
func secondMayBeVerdict(v api.Verdict) bool {
	switch v.Kind {
	case 0, 1, 3:
		return v.How == 0 && v.Who == 0 && len(v.Schedule) == 0
	case 2:
	default:
		return false
	}
	for _, t := range v.Schedule {
		if t < 0 || t > 15 {
			return false
		}
	}
	switch v.How {
	case 2, 3, 5:
		return v.Who >= 0 && v.Who <= 15 && len(v.Schedule) <= 1048577
	case 4:
		return v.Who == -1 && len(v.Schedule) <= 1048577
	}
	return false
}

// secondMayBe tells whether a frontier may be written.
func secondMayBe(f api.Frontier) bool {
	if !secondMayBeVerdict(f.Verdict) || f.Played < 0 || f.Charged < 0 || f.Played > 4611686018427387904 || f.Charged > 4611686018427387904 {
		return false
	}
	if f.Verdict.Kind != 0 {
		return len(f.Path) == 0 && len(f.Back) == 0 && len(f.Asleep) == 0 && f.Done == 0
	}
	n := len(f.Path)
	if n == 0 || n > 1048577 || n != len(f.Back) || n != len(f.Asleep) || f.Done < 0 || f.Done > 8192 {
		return false
	}
	for i := range n {
		if f.Path[i] < 0 || f.Path[i] > 15 || f.Back[i] < 0 || f.Back[i] > 65535 || f.Asleep[i] < 0 || f.Asleep[i] > 65535 {
			return false
		}
	}
	return true
}

// againstSecond fails if bytes are read, or not, otherwise than by the second reader; it tells whether they are read, as a verdict, as a frontier.
func againstSecond(t testing.TB, b []byte) (asVerdict, asFrontier bool) {
	t.Helper()
	v, asVerdict := secondReadVerdict(b)
	if asVerdict {
		checkVerdict(t, v, b...)
	} else {
		checkVerdictNotRead(t, b)
	}
	f, asFrontier := secondRead(b)
	if asFrontier {
		checkFrontier(t, f, b...)
	} else {
		checkNotRead(t, b)
	}
	return asVerdict, asFrontier
}

// againstSecondWriter fails if a frontier is written, or not, otherwise than by the second writer; it tells whether it is written.
func againstSecondWriter(t testing.TB, f api.Frontier) bool {
	t.Helper()
	if !secondMayBe(f) {
		checkNotWritten(t, f)
		return false
	}
	checkFrontier(t, f, secondFrontierBytes(f)...)
	return true
}

// againstSecondVerdictWriter does so of a verdict.
func againstSecondVerdictWriter(t testing.TB, v api.Verdict) bool {
	t.Helper()
	if !secondMayBeVerdict(v) {
		checkVerdictNotWritten(t, v)
		return false
	}
	checkVerdict(t, v, secondVerdictBytes(v)...)
	return true
}
