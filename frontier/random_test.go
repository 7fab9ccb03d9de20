package frontier_test

import (
	"bytes"
	"math/rand"
	"slices"
	"testing"
	"unsafe"

	"assize/api"
	"assize/code"
	"assize/compile"
	"assize/frontier"
	"assize/sample"
	"assize/search"
)

// texts are programs whose threads are in each other's way, so that their searches go back and forth.
func texts() []string {
	return []string{
		"shared x int; thread a { x = 1; } thread b { x = 2; } thread c { local i int; i = x; assert i < 3; }",
		"shared x int; shared y int; thread a { local i int; x = 1; i = y; y = i + 1; } thread b { local i int; y = 1; i = x; x = i; }",
		"mutex m; mutex n; thread a { lock m; lock n; unlock n; unlock m; } thread b { lock n; lock m; unlock m; unlock n; }",
		"shared x int; mutex m; thread a { lock m; x = 1; unlock m; } thread b { lock m; x = 2; unlock m; } thread c { lock m; x = 3; unlock m; }",
		"shared x int; thread a { local i int; while i < 3 { i = i + 1; x = i; } } thread b { local i int; i = x; assert 6 / (i - 9) < 2; }",
		"shared x int; thread a { x = 1; x = 0; } thread b { assert x == 0; }",
		"shared x int; thread a { while x == 0 { skip; } } thread b { x = 1; }",
		"thread a { } thread b { }",
		"shared a int; shared b int; shared c int; thread p { a = 1; b = 1; c = 1; } thread q { c = 2; b = 2; a = 2; } thread r { local i int; i = a; i = c; }",
	}
}

// aCode makes a code: of one of these programs, of any other one, or of none.
func aCode(t testing.TB, pick sample.Pick) api.Code {
	t.Helper()
	switch pick(4) {
	case 0:
		return sample.Code(pick)
	case 1:
		c, err := compile.Compile(sample.Program(pick))
		if err != api.OK {
			t.Fatal(err)
		}
		return c
	}
	return compiled(t, texts()[pick(len(texts()))])
}

// aLimit makes a limit of work, mostly one that is enough.
func aLimit(pick sample.Pick) int {
	if pick(4) == 0 {
		return 1 + pick(12)
	}
	return 20 + pick(40)
}

// someNumbers makes a list, of numbers that may be from 0 to another one.
func someNumbers(pick sample.Pick, n, last int) []int {
	var list []int
	for range n {
		list = append(list, pick(last+1)>>pick(17))
	}
	return list
}

// aVerdict makes a verdict that may be written.
func aVerdict(pick sample.Pick) api.Verdict {
	v := api.Verdict{Kind: pick(4)}
	if v.Kind == api.Fails {
		v = fails(2+pick(4), pick(16), someNumbers(pick, pick(300)>>pick(9), 15)...)
		if v.How == api.Deadlock {
			v.Who = -1
		}
	}
	return v
}

// aFrontier makes a frontier that may be written.
func aFrontier(pick sample.Pick) api.Frontier {
	f := api.Frontier{Verdict: aVerdict(pick), Played: pick(1<<62) >> pick(63), Charged: pick(1<<62) >> pick(63)}
	if f.Verdict.Kind == api.Open {
		n := 1 + pick(300)>>pick(9)
		f.Path, f.Back, f.Asleep = someNumbers(pick, n, 15), someNumbers(pick, n, 65535), someNumbers(pick, n, 65535)
		f.Done = pick(8193) >> pick(14)
	}
	return f
}

// spoiled changes one thing of a frontier.
func spoiled(pick sample.Pick, f api.Frontier) api.Frontier {
	f.Path, f.Back, f.Asleep = slices.Clone(f.Path), slices.Clone(f.Back), slices.Clone(f.Asleep)
	f.Verdict.Schedule = slices.Clone(f.Verdict.Schedule)
	odd := []int{-1, -2, 0, 1, 2, 15, 16, 65535, 65536, 8192, 8193, 1 << 40, 1 << 62, 1<<62 + 1, -1 << 63}[pick(15)]
	lists := []*[]int{&f.Path, &f.Back, &f.Asleep, &f.Verdict.Schedule}
	if l := lists[pick(4)]; pick(3) > 0 && len(*l) > 0 {
		at := pick(len(*l))
		switch pick(4) {
		case 0:
			*l = (*l)[:at]
		case 1:
			*l = append(*l, odd)
		default:
			(*l)[at] = []int{odd, pick(4), (*l)[at] ^ 1<<pick(4)}[pick(3)]
		}
		return f
	}
	places := []*int{&f.Done, &f.Played, &f.Charged, &f.Verdict.Kind, &f.Verdict.How, &f.Verdict.Who}
	*places[pick(6)] = []int{odd, pick(6) - 1}[pick(2)]
	return f
}

// P17.3: what may be written is read as it was.
func TestFrontiersAtRandom(t *testing.T) {
	random := rand.New(rand.NewSource(1))
	told := map[string]api.Frontier{}
	other := 0
	for range 20000 {
		f := aFrontier(random.Intn)
		if !againstSecondWriter(t, f) || !againstSecondVerdictWriter(t, f.Verdict) {
			t.Fatal("is not written:", short(f))
		}
		b, _ := frontier.Bytes(f)
		// Each has its own bytes.
		if twin, there := told[string(b)]; there && !sameFrontier(twin, f) {
			t.Fatal(short(twin), short(f))
		}
		told[string(b)] = f
		for range 2 {
			f = spoiled(random.Intn, f)
			if !againstSecondWriter(t, f) {
				other++
			}
			againstSecondVerdictWriter(t, f.Verdict)
		}
	}
	if len(told) < 10000 || other < 10000 {
		t.Error(len(told), other)
	}
}

// P17.3: what is read is written as the same bytes; bytes that are changed a little are read just if they are those of one.
func TestBytesAtRandom(t *testing.T) {
	random := rand.New(rand.NewSource(2))
	verdicts, frontiers, none := 0, 0, 0
	for range 40000 {
		b := secondFrontierBytes(aFrontier(random.Intn))
		if random.Intn(3) == 0 {
			b = secondVerdictBytes(aVerdict(random.Intn))
		}
		for range 1 + random.Intn(2) {
			at := random.Intn(len(b) + 1)
			x := []byte{byte(random.Intn(256)), byte(random.Intn(5)), 128, 0}[random.Intn(4)]
			switch {
			case at == len(b) || random.Intn(4) == 0:
				b = slices.Insert(b, at, x)
			case random.Intn(3) == 0:
				b = slices.Delete(b, at, at+1)
			default:
				b[at] = []byte{x, b[at] + 1, b[at] ^ 128}[random.Intn(3)]
			}
		}
		asVerdict, asFrontier := againstSecond(t, b)
		switch {
		case asVerdict:
			verdicts++
		case asFrontier:
			frontiers++
		default:
			none++
		}
	}
	if verdicts < 1000 || frontiers < 1000 || none < 1000 {
		t.Error(verdicts, frontiers, none)
	}
}

// putDown tells a search's frontier as bytes, and fails if these are not read as it.
func putDown(t testing.TB, s *search.Search) []byte {
	t.Helper()
	b, err := frontier.Bytes(s.Frontier())
	if err != api.OK {
		t.Fatal(err, short(s.Frontier()))
	}
	checkFrontier(t, s.Frontier(), b...)
	v, err := frontier.Verdict(s.Verdict())
	if err != api.OK {
		t.Fatal(err, short(s.Verdict()))
	}
	checkVerdict(t, s.Verdict(), v...)
	return b
}

// P17.3: the frontier of a search may be written, wherever it is, and taken up it comes to the same verdict, and plays and charges the same.
func TestSearchesPutDown(t *testing.T) {
	random := rand.New(rand.NewSource(3))
	kinds := map[int]int{}
	for range 1200 {
		c, work, budget := aCode(t, random.Intn), aLimit(random.Intn), random.Intn(1500)>>random.Intn(7)
		whole := begun(t, c, work, budget)
		whole.Run(budget)
		s := begun(t, c, work, budget)
		slice := 1 + random.Intn(40)
		for {
			b := putDown(t, s)
			next := checkResume(t, c, work, budget, b, api.OK)
			checkStand(t, next, s.Frontier())
			s = next
			if s.Verdict().Kind != api.Open {
				break
			}
			s.Run(1 + random.Intn(slice))
		}
		checkStand(t, s, whole.Frontier())
		kinds[s.Verdict().Kind]++
	}
	for kind := api.Safe; kind <= api.Spent; kind++ {
		if kinds[kind] < 100 {
			t.Error("too few of", kind, kinds)
		}
	}
}

// P17.3: put down ahead of any instruction, each search goes on from there as it would.
func TestPutDownAnywhere(t *testing.T) {
	for _, text := range texts() {
		c := compiled(t, text)
		whole := begun(t, c, 30, 2000)
		whole.Run(2000)
		s := begun(t, c, 30, 2000)
		for ; s.Verdict().Kind == api.Open; s.Run(1) {
			other := checkResume(t, c, 30, 2000, putDown(t, s), api.OK)
			checkStand(t, other, s.Frontier())
			other.Run(2000)
			checkStand(t, other, whole.Frontier())
		}
		checkStand(t, s, whole.Frontier())
	}
}

// P17.2: a search is taken up just if a frontier that may be of these is read.
func TestResumeAtRandom(t *testing.T) {
	random := rand.New(rand.NewSource(4))
	seen := map[api.Errno]int{}
	for range 8000 {
		c, work, budget := aCode(t, random.Intn), aLimit(random.Intn), random.Intn(500)
		s := begun(t, c, work, budget)
		s.Run(random.Intn(200))
		f := s.Frontier()
		for range random.Intn(3) {
			f = spoiled(random.Intn, f)
		}
		if !secondMayBe(f) {
			continue
		}
		b := secondFrontierBytes(f)
		if random.Intn(5) == 0 {
			b[random.Intn(len(b))] ^= 1 << random.Intn(8)
		}
		f, read := secondRead(b)
		twin, want := search.Restore(c, work, budget, f)
		if !read {
			want = api.ErrBytes
		}
		seen[want]++
		if other := checkResume(t, c, work, budget, b, want); want == api.OK {
			n := random.Intn(100)
			twin.Run(n)
			other.Run(n)
			checkStand(t, other, twin.Frontier())
		}
	}
	for _, err := range []api.Errno{api.OK, api.ErrBytes, api.ErrBroken} {
		if seen[err] < 300 {
			t.Errorf("too few of %v: %v", err, seen)
		}
	}
}

// Rules 3, 4 and 8: nothing that is handed in is changed, and what is told is told again.
func TestNothingIsChanged(t *testing.T) {
	random := rand.New(rand.NewSource(5))
	for range 3000 {
		f := aFrontier(random.Intn)
		if random.Intn(2) == 0 {
			f = spoiled(random.Intn, f)
		}
		kept := f
		kept.Path, kept.Back, kept.Asleep = slices.Clone(f.Path), slices.Clone(f.Back), slices.Clone(f.Asleep)
		kept.Verdict.Schedule = slices.Clone(f.Verdict.Schedule)
		b, err := frontier.Bytes(f)
		v, verdictErr := frontier.Verdict(f.Verdict)
		c := aCode(t, random.Intn)
		own, keptBytes := code.Copy(c), slices.Clone(b)
		frontier.Read(b)
		frontier.ReadVerdict(b)
		frontier.Resume(c, 20, 1<<40, b)
		if !sameFrontier(f, kept) || !bytes.Equal(b, keptBytes) || !code.Same(c, own) {
			t.Fatal(short(kept))
		}
		again, errAgain := frontier.Bytes(f)
		verdictAgain, verdictErrAgain := frontier.Verdict(f.Verdict)
		if !bytes.Equal(again, b) || errAgain != err || !bytes.Equal(verdictAgain, v) || verdictErrAgain != verdictErr {
			t.Fatal(short(kept))
		}
	}
}

// checkApart fails if two of these lists share memory, their spare room too.
func checkApart(t *testing.T, lists ...[]int) {
	t.Helper()
	from := func(l []int) uintptr { return uintptr(unsafe.Pointer(unsafe.SliceData(l))) }
	for i, a := range lists {
		for _, b := range lists[:i] {
			if from(a) < from(b)+8*uintptr(cap(b)) && from(b) < from(a)+8*uintptr(cap(a)) {
				t.Error("memory is shared")
			}
		}
	}
}

// Rule 4: an answer is new memory.
func TestNewMemory(t *testing.T) {
	list := times(5, 1)
	f := api.Frontier{Path: list, Back: list, Asleep: list[:5:5], Done: 1}
	f.Asleep = times(5, 0)
	b, _ := frontier.Bytes(f)
	one, _ := frontier.Read(b)
	two, _ := frontier.Read(b)
	v := fails(api.Trapped, 1, list...)
	w, _ := frontier.Verdict(v)
	three, _ := frontier.ReadVerdict(w)
	four, _ := frontier.ReadVerdict(w)
	checkApart(t, list, one.Path, one.Back, one.Asleep, two.Path, two.Back, two.Asleep, three.Schedule, four.Schedule)
	for _, text := range [][]byte{b, w} {
		for i := range text[:cap(text)] {
			text[:cap(text)][i] = 99
		}
	}
	if !sameFrontier(one, f) || !sameFrontier(two, f) || !sameVerdict(three, v) || !sameVerdict(four, v) {
		t.Error(one, two, three, four)
	}
	checkFrontier(t, f, secondFrontierBytes(f)...)
	checkVerdict(t, v, secondVerdictBytes(v)...)
}

// Rule 4: a search looks neither at the bytes nor at the code behind the call.
func TestSearchesOfTheirOwn(t *testing.T) {
	text := texts()[1]
	c, own := compiled(t, text), compiled(t, text)
	s := begun(t, own, 30, 500)
	s.Run(37)
	b, _ := frontier.Bytes(s.Frontier())
	one := checkResume(t, c, 30, 500, b, api.OK)
	two := checkResume(t, c, 30, 500, b, api.OK)
	for i := range b {
		b[i] = 99
	}
	c.Shared[0].Bits, c.Bodies[0].Nodes[0] = 7, api.Node{Kind: 9}
	c.Bodies[1] = api.Body{}
	one.Run(100)
	checkStand(t, two, s.Frontier())
	s.Run(100)
	checkStand(t, one, s.Frontier())
	two.Run(500)
	s.Run(500)
	checkStand(t, two, s.Frontier())
}

// The room behind the end of a list is neither read, nor written.
func TestSpareRoom(t *testing.T) {
	f := full()
	for _, l := range []*[]int{&f.Path, &f.Back, &f.Asleep} {
		*l = append(*l, -7, 99)[:3]
	}
	b := secondFrontierBytes(full())
	checkFrontier(t, f, b...)
	v := fails(api.Overrun, 1, append([]int{0, 1}, 99)[:2]...)
	checkVerdict(t, v, 2, 5, 2, 2, 0, 1)
	if f.Path[:5][3] != -7 || f.Back[:5][4] != 99 || f.Asleep[:5][3] != -7 || v.Schedule[:3][2] != 99 {
		t.Error("spare room was written")
	}
	long := append(slices.Clone(b), 7, 7, 7)
	if got, err := frontier.Read(long[:len(b)]); !sameFrontier(got, f) || err != api.OK {
		t.Error(got, err)
	}
	checkNotRead(t, long[:len(b)-1])
	if !bytes.Equal(long, append(slices.Clone(b), 7, 7, 7)) {
		t.Error("spare room was written")
	}
}

// FuzzBytes looks for bytes that are read otherwise than by the second reader, or written otherwise again.
func FuzzBytes(f *testing.F) {
	f.Add([]byte{2, 4, 0, 2, 0, 1})
	f.Add([]byte{1, 172, 2, 2})
	f.Add([]byte{0, 0, 0, 1, 0, 1, 0, 0})
	random := rand.New(rand.NewSource(6))
	for range 20 {
		f.Add(secondFrontierBytes(aFrontier(random.Intn)))
		f.Add(secondVerdictBytes(aVerdict(random.Intn)))
	}
	f.Fuzz(func(t *testing.T, b []byte) { againstSecond(t, b) })
}

// FuzzResume takes up whatever bytes are a frontier that may be, and puts the search down again.
func FuzzResume(f *testing.F) {
	f.Add(int64(1), 20, 100, []byte{0, 0, 0, 1, 0, 1, 0, 0})
	f.Add(int64(2), 9, 9, []byte{1, 172, 2, 2})
	random := rand.New(rand.NewSource(7))
	for seed := range int64(20) {
		s := begun(f, aCode(f, rand.New(rand.NewSource(seed)).Intn), 30, 500)
		s.Run(random.Intn(200))
		b, _ := frontier.Bytes(s.Frontier())
		f.Add(seed, 30, 500, b)
	}
	f.Fuzz(func(t *testing.T, seed int64, work, budget int, b []byte) {
		c := aCode(t, rand.New(rand.NewSource(seed)).Intn)
		front, read := secondRead(b)
		twin, want := search.Restore(c, work, budget, front)
		if want != api.ErrArg && !read {
			want = api.ErrBytes
		}
		if s := checkResume(t, c, work, budget, b, want); want == api.OK {
			checkFrontier(t, s.Frontier(), b...)
			s.Run(50)
			twin.Run(50)
			checkStand(t, s, twin.Frontier())
		}
	})
}
