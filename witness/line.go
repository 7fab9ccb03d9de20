package witness

import (
	"strings"

	"assize/api"
	"assize/octet"
	"assize/real"
	"assize/tree"
)

// line tells a step's line.
func (s step) line() string {
	parts := []string{octet.Dec(s.number), s.program.Threads[s.told.Thread].Name, textOf(s.statement)}
	touched := teller(s.told.Event.Kind)
	return strings.Join(append(parts, touched(s)...), " ")
}

// teller tells what tells, of a step with an event of that kind, what it touched.
func teller(kind int) func(step) []string {
	tellers := [...]func(step) []string{
		api.Local:   step.nothing,
		api.Reads:   step.read,
		api.Writes:  step.written,
		api.Locks:   step.guarded,
		api.Unlocks: step.guarded,
	}
	return tellers[kind]
}

// nothing tells that nothing shared was touched.
func (s step) nothing() []string { return nil }

// read tells which shared variable was read.
func (s step) read() []string { return []string{"//", "read", s.variable()} }

// written tells which shared variable was written, and its value then.
func (s step) written() []string {
	value := s.told.Shared[s.told.Event.Object]
	return []string{"//", s.variable(), "=", valueText(value)}
}

// guarded tells which mutex was touched, and how it is then: a step that ended the run may have left it as it was.
func (s step) guarded() []string {
	at := s.told.Event.Object
	how := "holds"
	if s.held[at] < 0 {
		how = "free"
	}
	return []string{"//", how, s.program.Mutexes[at]}
}

// variable tells the name of the shared variable that was touched.
func (s step) variable() string { return s.program.Shared[s.told.Event.Object].Name }

// textOf tells a statement's text, without what stands in its blocks.
func textOf(s api.Stmt) string {
	// A statement without an expression has no text of one, and needs none.
	e, _ := tree.Expr(s.E)
	switch s.Kind {
	case api.Assign:
		return s.Name + " = " + e + ";"
	case api.Lock:
		return "lock " + s.Name + ";"
	case api.Unlock:
		return "unlock " + s.Name + ";"
	case api.Assert:
		return "assert " + e + ";"
	case api.If:
		return "if " + e + " {}"
	case api.While:
		return "while " + e + " {}"
	}
	return "skip;"
}

// valueText tells a value's text: any value's, not only that of a literal.
func valueText(v api.Value) string {
	switch {
	case v.T == api.Int:
		return octet.Dec(int(v.Bits))
	case v.T == api.Real:
		return real.Text(v.Bits)
	case v.Bits == 1:
		return "true"
	}
	return "false"
}

// lastLine tells how a replay ended.
func (r *replay) lastLine() string {
	how, who := r.run.End()
	switch how {
	case api.Done:
		return "done"
	case api.Failed:
		return "assert failed in " + r.program.Threads[who].Name
	case api.Trapped:
		return "trap in " + r.program.Threads[who].Name
	case api.Deadlock:
		return "deadlock"
	case api.Overrun:
		return "limit in " + r.program.Threads[who].Name
	}
	return "running"
}
