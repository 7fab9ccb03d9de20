package check_test

import (
	"strings"

	"assize/api"
	"assize/check"
	"assize/lex"
	"assize/tree"
)

// A second checker: it goes once through a program and writes all faults down, each under its kind; the first of the first kind that has any is the program's. It is slow, and ends at no trees without an end.

type second struct {
	p      api.Program
	faults [6][]api.Spot
}

// secondCheck tells a program's spot.
func secondCheck(p api.Program) api.Spot {
	s := &second{p: p}
	s.program()
	for _, list := range s.faults {
		if len(list) > 0 {
			return list[0]
		}
	}
	return fine()
}

// note writes a fault down, if there is one.
func (s *second) note(bad bool, err api.Errno, thread, stmt int) {
	kinds := []api.Errno{api.ErrLong, api.ErrArg, api.ErrThere, api.ErrMissing, api.ErrType, check.ErrAtomic}
	for i, kind := range kinds {
		if bad && kind == err {
			s.faults[i] = append(s.faults[i], spot(err, thread, stmt))
		}
	}
}

func (s *second) program() {
	p := s.p
	s.note(len(p.Threads) < 1 || len(p.Threads) > 16, api.ErrLong, -1, -1)
	s.note(len(p.Shared) > 32 || len(p.Mutexes) > 16, api.ErrLong, -1, -1)
	var ahead []string
	for _, v := range p.Shared {
		s.note(!secondVar(v), api.ErrArg, -1, -1)
		s.note(has(ahead, v.Name), api.ErrThere, -1, -1)
		ahead = append(ahead, v.Name)
	}
	for _, m := range p.Mutexes {
		s.note(!lex.Name(m), api.ErrArg, -1, -1)
		s.note(has(ahead, m), api.ErrThere, -1, -1)
		ahead = append(ahead, m)
	}
	common := len(ahead)
	for i, t := range p.Threads {
		s.note(len(t.Locals) > 16 || tree.Size(api.Program{Threads: []api.Thread{t}}) > 1024, api.ErrLong, i, -1)
		s.note(!lex.Name(t.Name), api.ErrArg, i, -1)
		s.note(has(ahead, t.Name), api.ErrThere, i, -1)
		ahead = append(ahead, t.Name)
		for j, v := range t.Locals {
			s.note(!secondVar(v), api.ErrArg, i, -1)
			s.note(has(ahead[:common], v.Name), api.ErrThere, i, -1)
			for _, w := range t.Locals[:j] {
				s.note(v.Name == w.Name, api.ErrThere, i, -1)
			}
		}
		s.block(i, t.Body, 0, 0)
	}
}

// block goes through a block whose first statement has that number; it tells the next number.
func (s *second) block(thread int, block []api.Stmt, number, deep int) int {
	for _, stmt := range block {
		s.stmt(thread, number, stmt)
		s.note(deep > 32, api.ErrArg, thread, number)
		number = s.block(thread, stmt.Body, number+1, deep+1)
		number = s.block(thread, stmt.Else, number, deep+1)
	}
	return number
}

func (s *second) stmt(thread, number int, stmt api.Stmt) {
	all := flat(stmt.E)
	s.note(len(all) > 8192, api.ErrLong, thread, number)
	s.note(!secondStmt(stmt), api.ErrArg, thread, number)
	touched := 0
	if stmt.Kind == api.Assign {
		all = append([]api.Expr{name(stmt.Name)}, all...)
	}
	for _, e := range all {
		if e.Op == api.Name {
			first, isShared := s.variable(thread, e.Name)
			s.note(first.T == 0, api.ErrMissing, thread, number)
			if isShared {
				touched++
			}
		}
	}
	s.note(touched > 1, check.ErrAtomic, thread, number)
	t := s.letter(thread, stmt.E)
	switch stmt.Kind {
	case api.Lock, api.Unlock:
		s.note(!has(s.p.Mutexes, stmt.Name), api.ErrMissing, thread, number)
	case api.Assign:
		first, _ := s.variable(thread, stmt.Name)
		s.note(t == "" || t != letterOf(first.T), api.ErrType, thread, number)
	case api.Assert, api.If, api.While:
		s.note(t != "b", api.ErrType, thread, number)
	}
}

// variable tells a variable's first value (none of no variable's), and whether it is a shared one.
func (s *second) variable(thread int, name string) (api.Value, bool) {
	for _, v := range s.p.Threads[thread].Locals {
		if v.Name == name {
			return v.First, false
		}
	}
	for _, v := range s.p.Shared {
		if v.Name == name {
			return v.First, true
		}
	}
	return api.Value{}, false
}

// letter tells the letter of an expression's type; none of one without a type.
func (s *second) letter(thread int, e api.Expr) string {
	switch e.Op {
	case api.Lit:
		return letterOf(e.Lit.T)
	case api.Name:
		first, _ := s.variable(thread, e.Name)
		return letterOf(first.T)
	}
	operands := ""
	for _, kid := range e.Kids {
		letter := s.letter(thread, kid)
		if letter == "" {
			return ""
		}
		operands += letter
	}
	return made(e.Op, operands)
}

// made tells the letter of what an operator makes of operands by their letters; none of those that it does not take.
func made(op api.Op, operands string) string {
	table := map[api.Op]string{
		api.Or: "bb>b", api.And: "bb>b", api.Not: "b>b",
		api.Eq: "ii>b bb>b rr>b", api.Ne: "ii>b bb>b rr>b",
		api.Lt: "ii>b rr>b", api.Le: "ii>b rr>b", api.Gt: "ii>b rr>b", api.Ge: "ii>b rr>b",
		api.Add: "ii>i rr>r", api.Sub: "ii>i rr>r", api.Mul: "ii>i rr>r", api.Div: "ii>i rr>r", api.Neg: "i>i r>r",
		api.Mod: "ii>i", api.ToInt: "r>i", api.ToReal: "i>r",
	}
	for _, row := range strings.Fields(table[op]) {
		if from, to, _ := strings.Cut(row, ">"); from == operands {
			return to
		}
	}
	return ""
}

func letterOf(t api.Type) string {
	return map[api.Type]string{api.Int: "i", api.Bool: "b", api.Real: "r"}[t]
}

// secondStmt tells whether a statement may be printed, whatever the statements in its blocks are.
func secondStmt(s api.Stmt) bool {
	_, err := tree.Expr(s.E)
	isExpr, noExpr := err == api.OK, s.E.Op == 0 && s.E.Name == "" && len(s.E.Kids) == 0 && s.E.Lit == api.Value{}
	body, other := len(s.Body) > 0, len(s.Else) > 0
	switch s.Kind {
	case api.Assign:
		return lex.Name(s.Name) && isExpr && !body && !other
	case api.Lock, api.Unlock:
		return lex.Name(s.Name) && noExpr && !body && !other
	case api.Assert:
		return s.Name == "" && isExpr && !body && !other
	case api.If:
		return s.Name == "" && isExpr
	case api.While:
		return s.Name == "" && isExpr && !other
	}
	return s.Kind == api.Skip && s.Name == "" && noExpr && !body && !other
}

func secondVar(v api.Var) bool {
	_, err := tree.Value(v.First)
	return lex.Name(v.Name) && err == api.OK
}

// flat tells all parts of an expression.
func flat(e api.Expr) []api.Expr {
	list := []api.Expr{e}
	for _, kid := range e.Kids {
		list = append(list, flat(kid)...)
	}
	return list
}

func has(list []string, s string) bool {
	for _, x := range list {
		if x == s {
			return true
		}
	}
	return false
}

// secondType tells what TypeOf should answer.
func secondType(p api.Program, thread int, e api.Expr) (api.Type, api.Errno) {
	_, err := tree.Expr(e)
	if secondCheck(p).Err != api.OK || thread < 0 || thread >= len(p.Threads) || err != api.OK {
		return 0, api.ErrArg
	}
	s := &second{p: p}
	for _, part := range flat(e) {
		if part.Op == api.Name {
			if first, _ := s.variable(thread, part.Name); first.T == 0 {
				return 0, api.ErrMissing
			}
		}
	}
	for _, t := range []api.Type{api.Int, api.Bool, api.Real} {
		if letterOf(t) == s.letter(thread, e) {
			return t, api.OK
		}
	}
	return 0, api.ErrType
}
