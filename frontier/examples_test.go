package frontier_test

import (
	"bytes"
	"fmt"
	"slices"
	"testing"

	"assize/api"
	"assize/compile"
	"assize/frontier"
	"assize/parse"
	"assize/search"
)

// times tells as many of something.
func times[T any](n int, x T) []T { return slices.Repeat([]T{x}, n) }

// short tells the beginning of something.
func short(x any) string { return fmt.Sprintf("%.400s", fmt.Sprintf("%+v", x)) }

// compiled tells the code of a program's text.
func compiled(t testing.TB, text string) api.Code {
	t.Helper()
	p, fault := parse.Parse(text)
	if fault.Err != api.OK {
		t.Fatal(fault, text)
	}
	c, err := compile.Compile(p)
	if err != api.OK {
		t.Fatal(err, text)
	}
	return c
}

// begun makes a search.
func begun(t testing.TB, c api.Code, work, budget int) *search.Search {
	t.Helper()
	s, err := search.New(c, work, budget)
	if s == nil || err != api.OK {
		t.Fatalf("New(%s, %d, %d): %v", short(c), work, budget, err)
	}
	return s
}

// safe, spent and fails tell verdicts.

func safe() api.Verdict { return api.Verdict{Kind: api.Safe} }

func spent() api.Verdict { return api.Verdict{Kind: api.Spent} }

func fails(how, who int, schedule ...int) api.Verdict {
	return api.Verdict{Kind: api.Fails, How: how, Who: who, Schedule: schedule}
}

// sameVerdict tells whether two verdicts are the same.
func sameVerdict(a, b api.Verdict) bool {
	return a.Kind == b.Kind && a.How == b.How && a.Who == b.Who && slices.Equal(a.Schedule, b.Schedule)
}

// sameFrontier tells whether two frontiers are the same.
func sameFrontier(a, b api.Frontier) bool {
	return slices.Equal(a.Path, b.Path) && slices.Equal(a.Back, b.Back) && slices.Equal(a.Asleep, b.Asleep) &&
		a.Done == b.Done && a.Played == b.Played && a.Charged == b.Charged && sameVerdict(a.Verdict, b.Verdict)
}

// checkVerdict fails if a verdict is not written as these bytes, or these are not read as it.
func checkVerdict(t testing.TB, v api.Verdict, want ...byte) {
	t.Helper()
	if b, err := frontier.Verdict(v); !bytes.Equal(b, want) || err != api.OK {
		t.Fatalf("Verdict(%s) = %s, %v; not %s", short(v), short(b), err, short(want))
	}
	if got, err := frontier.ReadVerdict(want); !sameVerdict(got, v) || err != api.OK {
		t.Fatalf("ReadVerdict(%s) = %s, %v; not %s", short(want), short(got), err, short(v))
	}
}

// checkFrontier fails if a frontier is not written as these bytes, or these are not read as it.
func checkFrontier(t testing.TB, f api.Frontier, want ...byte) {
	t.Helper()
	if b, err := frontier.Bytes(f); !bytes.Equal(b, want) || err != api.OK {
		t.Fatalf("Bytes(%s) = %s, %v; not %s", short(f), short(b), err, short(want))
	}
	if got, err := frontier.Read(want); !sameFrontier(got, f) || err != api.OK {
		t.Fatalf("Read(%s) = %s, %v; not %s", short(want), short(got), err, short(f))
	}
}

// isNothing tells whether a frontier is the zero value.
func isNothing(f api.Frontier) bool {
	return len(f.Path)+len(f.Back)+len(f.Asleep) == 0 && sameFrontier(f, api.Frontier{})
}

// checkVerdictNotRead fails if bytes are read as a verdict.
func checkVerdictNotRead(t testing.TB, b []byte) {
	t.Helper()
	if v, err := frontier.ReadVerdict(b); !sameVerdict(v, api.Verdict{}) || err != api.ErrBytes {
		t.Fatalf("ReadVerdict(%s) = %s, %v", short(b), short(v), err)
	}
}

// checkNotRead fails if bytes are read as a frontier.
func checkNotRead(t testing.TB, b []byte) {
	t.Helper()
	if f, err := frontier.Read(b); !isNothing(f) || err != api.ErrBytes {
		t.Fatalf("Read(%s) = %s, %v", short(b), short(f), err)
	}
}

// checkStand fails if a search is elsewhere, or tells it otherwise by its other calls.
func checkStand(t testing.TB, s *search.Search, want api.Frontier) {
	t.Helper()
	if got := s.Frontier(); !sameFrontier(got, want) {
		t.Fatalf("the frontier is %s, not %s", short(got), short(want))
	}
	if v := s.Verdict(); !sameVerdict(v, want.Verdict) || s.Played() != want.Played || s.Charged() != want.Charged {
		t.Fatalf("%s, %d, %d; not %s", short(v), s.Played(), s.Charged(), short(want))
	}
}

// checkResume fails if Resume answers another error; it tells the search.
func checkResume(t testing.TB, c api.Code, work, budget int, b []byte, want api.Errno) *search.Search {
	t.Helper()
	s, err := frontier.Resume(c, work, budget, b)
	if (s != nil) != (want == api.OK) || err != want {
		t.Fatalf("Resume(%s, %d, %d, %s) = %v, %v; not %v", short(c), work, budget, short(b), s != nil, err, want)
	}
	return s
}

// The table of the chapter, line by line.
func TestExamples(t *testing.T) {
	checkVerdict(t, safe(), 1)
	checkVerdict(t, fails(api.Deadlock, -1, 0, 1), 2, 4, 0, 2, 0, 1)
	checkFrontier(t, api.Frontier{Verdict: safe(), Played: 300, Charged: 2}, 1, 172, 2, 2)
	c := compiled(t, "thread t { skip; }")
	first := begun(t, c, 10, 10)
	checkFrontier(t, first.Frontier(), 0, 0, 0, 1, 0, 1, 0, 0)
	checkNotRead(t, nil)
	checkNotRead(t, []byte{1, 0, 0, 0})
	b, _ := frontier.Bytes(first.Frontier())
	checkResume(t, c, 10, 0, b, api.ErrBroken)
	checkStand(t, checkResume(t, c, 10, 10, b, api.OK), first.Frontier())
}

// The example of the whole that speaks of searches as bytes: one is put down in the midst of a step, and taken up.
func TestExampleOfTheWhole(t *testing.T) {
	c := compiled(t, "shared x int; thread a { x = 1 + 2; } thread b { assert x == 0; }")
	s := begun(t, c, 100, 1000)
	s.Run(2)
	f := s.Frontier()
	if f.Done != 2 {
		t.Fatal(f)
	}
	checkFrontier(t, f, 0, 0, 2, 1, 0, 1, 0, 2)
	other := checkResume(t, c, 100, 1000, []byte{0, 0, 2, 1, 0, 1, 0, 2}, api.OK)
	s.Run(1000)
	other.Run(1000)
	checkStand(t, s, api.Frontier{Charged: 8, Verdict: fails(api.Failed, 1, 0, 1)})
	checkStand(t, other, s.Frontier())
	v := s.Verdict()
	checkVerdict(t, v, 2, 2, 2, 2, 0, 1)
}
