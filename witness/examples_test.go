package witness_test

import (
	"fmt"
	"slices"
	"strings"
	"testing"

	"assize/api"
	"assize/parse"
	"assize/witness"
)

// times tells as many of something.
func times[T any](n int, x T) []T { return slices.Repeat([]T{x}, n) }

// short tells the beginning of something.
func short(x any) string { return fmt.Sprintf("%.600s", fmt.Sprintf("%+v", x)) }

// number tells an Int.
func number(n int64) api.Value { return api.Value{T: api.Int, Bits: uint64(n)} }

// program reads a program's text.
func program(t testing.TB, text string) api.Program {
	t.Helper()
	p, fault := parse.Parse(text)
	if fault.Err != api.OK {
		t.Fatalf("%.300q: %v", text, fault)
	}
	return p
}

// schedule reads a schedule: threads' numbers below 10, and blanks.
func schedule(text string) []int {
	var list []int
	for _, digit := range strings.ReplaceAll(text, " ", "") {
		list = append(list, int(digit-'0'))
	}
	return list
}

// sameMark tells whether two marks are the same.
func sameMark(a, b api.Mark) bool {
	return a.Thread == b.Thread && a.Stmt == b.Stmt && a.Event == b.Event && slices.Equal(a.Shared, b.Shared) && slices.Equal(a.Locals, b.Locals)
}

// sameStory tells whether two stories are the same.
func sameStory(a, b api.Story) bool {
	return slices.EqualFunc(a.Marks, b.Marks, sameMark) && a.How == b.How && a.Who == b.Who
}

// checkStory fails if another story is told.
func checkStory(t testing.TB, p api.Program, work int, schedule []int, want api.Story) {
	t.Helper()
	if got, err := witness.Story(p, work, schedule); !sameStory(got, want) || err != api.OK {
		t.Fatalf("Story(.., %d, %s) = %s, %v; not %s", work, short(schedule), short(got), err, short(want))
	}
}

// checkLines fails if other lines are told.
func checkLines(t testing.TB, p api.Program, work int, schedule []int, want ...string) {
	t.Helper()
	if got, err := witness.Lines(p, work, schedule); !slices.Equal(got, want) || err != api.OK {
		t.Fatalf("Lines(.., %d, %s) = %s, %v; not %s", work, short(schedule), short(got), err, short(want))
	}
}

// checkRefused fails if anything is told but an error, or another one.
func checkRefused(t testing.TB, p api.Program, work int, schedule []int, want api.Errno) {
	t.Helper()
	if s, err := witness.Story(p, work, schedule); !sameStory(s, api.Story{}) || err != want {
		t.Fatalf("Story(.., %d, %s) = %s, %v; not %v", work, short(schedule), short(s), err, want)
	}
	if l, err := witness.Lines(p, work, schedule); len(l) > 0 || err != want {
		t.Fatalf("Lines(.., %d, %s) = %s, %v; not %v", work, short(schedule), short(l), err, want)
	}
}

// checkProved fails if a verdict of a failure is proved, and should not be, or the other way round.
func checkProved(t testing.TB, p api.Program, work, how, who int, schedule []int, want bool) {
	t.Helper()
	v := api.Verdict{Kind: api.Fails, How: how, Who: who, Schedule: schedule}
	if witness.Proves(p, work, v) != want {
		t.Fatalf("Proves(.., %d, %s) is not %v", work, short(v), want)
	}
}

// The table of the chapter, line by line.
func TestExamples(t *testing.T) {
	p := program(t, "shared x int; thread a { x = 1; assert x == 2; }")
	checkLines(t, p, 100, schedule("0 0"), "0 a x = 1; // x = 1", "1 a assert (x == 2); // read x", "assert failed in a")
	one := []api.Value{number(1)}
	checkStory(t, p, 100, schedule("0 0"), api.Story{Marks: []api.Mark{
		{Thread: 0, Stmt: 0, Event: api.Event{Thread: 0, Kind: api.Writes, Object: 0}, Shared: one},
		{Thread: 0, Stmt: 1, Event: api.Event{Thread: 0, Kind: api.Reads, Object: 0}, Shared: one},
	}, How: api.Failed, Who: 0})
	checkLines(t, p, 100, schedule("0"), "0 a x = 1; // x = 1", "running")
	checkRefused(t, p, 100, schedule("1"), api.ErrState)
	checkRefused(t, p, 100, schedule("0 0 0"), api.ErrState)
}

// The first example of the whole: a failure by one schedule, and none by the other.
func TestFirstExampleOfTheWhole(t *testing.T) {
	p := program(t, "shared x int; thread a { x = 1; } thread b { assert x == 0; }")
	checkLines(t, p, 100, schedule("0 1"), "0 a x = 1; // x = 1", "1 b assert (x == 0); // read x", "assert failed in b")
	checkProved(t, p, 100, api.Failed, 1, schedule("0 1"), true)
	checkLines(t, p, 100, schedule("1 0"), "0 b assert (x == 0); // read x", "1 a x = 1; // x = 1", "done")
	checkProved(t, p, 100, api.Failed, 1, schedule("1 0"), false)
}

// The second one: a deadlock, with both steps that lead to it.
func TestSecondExampleOfTheWhole(t *testing.T) {
	p := program(t, "mutex m; mutex n; thread a { lock m; lock n; } thread b { lock n; lock m; }")
	checkLines(t, p, 100, schedule("0 1"), "0 a lock m; // holds m", "1 b lock n; // holds n", "deadlock")
	checkProved(t, p, 100, api.Deadlock, -1, schedule("0 1"), true)
}
