package search_test

import (
	"fmt"
	"slices"
	"testing"

	"assize/api"
	"assize/compile"
	"assize/parse"
	"assize/search"
)

// times tells as many of something.
func times[T any](n int, x T) []T { return slices.Repeat([]T{x}, n) }

// short tells the beginning of something.
func short(x any) string { return fmt.Sprintf("%.400s", fmt.Sprintf("%+v", x)) }

// compiled tells the code of a program's text.
func compiled(t testing.TB, text string) api.Code {
	t.Helper()
	p, fault := parse.Parse(text)
	if fault.Err != api.OK {
		t.Fatal(fault, text)
	}
	c, err := compile.Compile(p)
	if err != api.OK {
		t.Fatal(err, text)
	}
	return c
}

// begun makes a search.
func begun(t testing.TB, c api.Code, work, budget int) *search.Search {
	t.Helper()
	s, err := search.New(c, work, budget)
	if s == nil || err != api.OK {
		t.Fatalf("New(%s, %d, %d): %v", short(c), work, budget, err)
	}
	return s
}

// restored makes a search out of a frontier.
func restored(t testing.TB, c api.Code, work, budget int, f api.Frontier) *search.Search {
	t.Helper()
	s, err := search.Restore(c, work, budget, f)
	if s == nil || err != api.OK {
		t.Fatalf("Restore(%s, %d, %d, %s): %v", short(c), work, budget, short(f), err)
	}
	return s
}

// safe, spent and fails tell verdicts.

func safe() api.Verdict { return api.Verdict{Kind: api.Safe} }

func spent() api.Verdict { return api.Verdict{Kind: api.Spent} }

func fails(how, who int, schedule ...int) api.Verdict {
	return api.Verdict{Kind: api.Fails, How: how, Who: who, Schedule: schedule}
}

// sameVerdict tells whether two verdicts are the same.
func sameVerdict(a, b api.Verdict) bool {
	return a.Kind == b.Kind && a.How == b.How && a.Who == b.Who && slices.Equal(a.Schedule, b.Schedule)
}

// sameFrontier tells whether two frontiers are the same.
func sameFrontier(a, b api.Frontier) bool {
	return slices.Equal(a.Path, b.Path) && slices.Equal(a.Back, b.Back) && slices.Equal(a.Asleep, b.Asleep) &&
		a.Done == b.Done && a.Played == b.Played && a.Charged == b.Charged && sameVerdict(a.Verdict, b.Verdict)
}

// checkFrontier fails if a search is elsewhere, or tells it otherwise by its other calls.
func checkFrontier(t testing.TB, s *search.Search, want api.Frontier) {
	t.Helper()
	if got := s.Frontier(); !sameFrontier(got, want) {
		t.Fatalf("the frontier is %s, not %s", short(got), short(want))
	}
	if v := s.Verdict(); !sameVerdict(v, want.Verdict) || s.Played() != want.Played || s.Charged() != want.Charged {
		t.Fatalf("%s, %d, %d; not %s", short(v), s.Played(), s.Charged(), short(want))
	}
}

// checkRun fails if a slice charges another number.
func checkRun(t testing.TB, s *search.Search, n, want int) {
	t.Helper()
	if got, err := s.Run(n); got != want || err != api.OK {
		t.Fatalf("Run(%d) = %d, %v; not %d", n, got, err, want)
	}
}

// checkEnd fails if a search has not come to such an end.
func checkEnd(t testing.TB, s *search.Search, v api.Verdict, played, charged int) {
	t.Helper()
	checkFrontier(t, s, api.Frontier{Played: played, Charged: charged, Verdict: v})
}

// The table of the chapter, line by line.
func TestExamples(t *testing.T) {
	for _, x := range []struct {
		text            string
		budget          int
		verdict         api.Verdict
		played, charged int
	}{
		{"thread a { skip; } thread b { skip; }", 1000, safe(), 1, 2},
		{"shared x int; thread a { x = 1; } thread b { x = 2; }", 1000, safe(), 2, 8},
		{"mutex m; mutex n; thread a { lock m; lock n; } thread b { lock n; lock m; }", 1000, fails(api.Deadlock, -1, 0, 0), 0, 2},
		{"thread a { while true { } }", 1000, fails(api.Overrun, 0, times(51, 0)...), 0, 100},
		{"thread a { while true { } }", 99, spent(), 0, 99},
		{"thread a { }", 1000, safe(), 1, 0},
		{"thread a { } thread b { }", 1000, safe(), 1, 0},
	} {
		s := begun(t, compiled(t, x.text), 100, x.budget)
		checkRun(t, s, 1000, x.charged)
		checkEnd(t, s, x.verdict, x.played, x.charged)
	}
}

// Those of the document's examples of the whole that speak of searches.
func TestExamplesOfTheWhole(t *testing.T) {
	end := func(text string, budget int, v api.Verdict, played, charged int) {
		t.Helper()
		s := begun(t, compiled(t, text), 100, budget)
		checkRun(t, s, 1<<40, charged)
		checkEnd(t, s, v, played, charged)
	}
	end("shared x int; thread a { x = 1; } thread b { assert x == 0; }", 1000, fails(api.Failed, 1, 0, 1), 0, 6)
	// The other lock of a is still held where it ends, unless it gives both back.
	end("mutex m; mutex n; thread a { lock m; lock n; unlock n; unlock m; } thread b { lock n; lock m; unlock m; unlock n; }",
		1000, fails(api.Deadlock, -1, 0, 1), 1, 10)
	end("thread a { while true { } }", 100, fails(api.Overrun, 0, times(51, 0)...), 0, 100)
	end("thread a { while true { } }", 1, spent(), 0, 1)
}
