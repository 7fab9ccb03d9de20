package witness_test

import (
	"fmt"
	"slices"
	"strings"
	"testing"

	"assize/api"
	"assize/compile"
	"assize/real"
	"assize/tree"
	"assize/vm"
	"assize/witness"
)

// A second teller: a machine plays the program's code, whose places are the statements' numbers; their texts are the lines of the program's whole text.

// secondSteps plays a schedule by a machine; behind each step it calls f, with the place from which the step was made.
func secondSteps(p api.Program, work int, schedule []int, f func(m *vm.Machine, t, place int, event api.Event)) (*vm.Machine, api.Errno) {
	c, err := compile.Compile(p)
	if err != api.OK {
		return nil, api.ErrArg
	}
	m, err := vm.New(c, work)
	if err != api.OK {
		return nil, api.ErrArg
	}
	if len(schedule) > 1024 {
		return nil, api.ErrLong
	}
	for _, t := range schedule {
		place := m.Place(t)
		event, _, err := m.Step(t)
		if err != api.OK {
			return nil, api.ErrState
		}
		f(m, t, place, event)
	}
	return m, api.OK
}

// secondStory tells a schedule's story.
func secondStory(p api.Program, work int, schedule []int) (api.Story, api.Errno) {
	var s api.Story
	m, err := secondSteps(p, work, schedule, func(m *vm.Machine, t, place int, event api.Event) {
		s.Marks = append(s.Marks, api.Mark{Thread: t, Stmt: place, Event: event, Shared: m.Shared(), Locals: m.Locals(t)})
	})
	if err != api.OK {
		return api.Story{}, err
	}
	s.How, s.Who = m.End()
	return s, api.OK
}

// secondTexts tells the statements' texts, thread by thread, by their numbers. The program's text may not be too long.
func secondTexts(t testing.TB, p api.Program) [][]string {
	t.Helper()
	text, err := tree.Print(p)
	if err != api.OK {
		t.Fatal(err)
	}
	var texts [][]string
	for _, line := range strings.Split(text, "\n") {
		inner := strings.TrimLeft(line, " ")
		switch {
		case strings.HasPrefix(line, "thread "):
			texts = append(texts, nil)
		case inner == line || strings.HasPrefix(inner, "}") || strings.HasPrefix(inner, "local "):
		default:
			last := len(texts) - 1
			texts[last] = append(texts[last], strings.Replace(inner, "{", "{}", 1))
		}
	}
	return texts
}

// secondValue tells a value's text.
func secondValue(v api.Value) string {
	switch v.T {
	case api.Int:
		return fmt.Sprint(int64(v.Bits))
	case api.Bool:
		return fmt.Sprint(v.Bits != 0)
	}
	return real.Text(v.Bits)
}

// secondTouch tells what stands behind a statement's text.
func secondTouch(p api.Program, m *vm.Machine, e api.Event) string {
	mutex := func() string {
		if m.Held()[e.Object] == -1 {
			return " // free " + p.Mutexes[e.Object]
		}
		return " // holds " + p.Mutexes[e.Object]
	}
	switch e.Kind {
	case api.Reads:
		return " // read " + p.Shared[e.Object].Name
	case api.Writes:
		return " // " + p.Shared[e.Object].Name + " = " + secondValue(m.Shared()[e.Object])
	case api.Locks, api.Unlocks:
		return mutex()
	}
	return ""
}

// secondLines tells a story's lines.
func secondLines(t testing.TB, p api.Program, work int, schedule []int) ([]string, api.Errno) {
	t.Helper()
	var lines []string
	var texts [][]string
	m, err := secondSteps(p, work, schedule, func(m *vm.Machine, th, place int, event api.Event) {
		if texts == nil {
			texts = secondTexts(t, p)
		}
		lines = append(lines, fmt.Sprintf("%d %s %s%s", len(lines), p.Threads[th].Name, texts[th][place], secondTouch(p, m, event)))
	})
	if err != api.OK {
		return nil, err
	}
	how, who := m.End()
	last := []string{"running", "done", "assert failed in ", "trap in ", "deadlock", "limit in "}[how]
	if who >= 0 {
		last += p.Threads[who].Name
	}
	return append(lines, last), api.OK
}

// againstSecond fails if a story or its lines are other ones than the second teller's; it tells the story, and its error.
func againstSecond(t testing.TB, p api.Program, work int, schedule []int) (api.Story, api.Errno) {
	t.Helper()
	want, wantErr := secondStory(p, work, schedule)
	got, err := witness.Story(p, work, schedule)
	if !sameStory(got, want) || err != wantErr {
		t.Fatalf("%s: Story(.., %d, %v) = %s, %v; not %s, %v", short(p), work, schedule, short(got), err, short(want), wantErr)
	}
	wantLines, _ := secondLines(t, p, work, schedule)
	lines, err := witness.Lines(p, work, schedule)
	if !slices.Equal(lines, wantLines) || err != wantErr {
		t.Fatalf("%s: Lines(.., %d, %v) = %q, %v; not %q, %v", short(p), work, schedule, lines, err, wantLines, wantErr)
	}
	return got, wantErr
}
