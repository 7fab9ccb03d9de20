package tree

import (
	"strings"

	"assize/api"
	"assize/lex"
)

// mayProgram tells whether a program may be printed.
func mayProgram(p api.Program) bool {
	return all(p.Shared, mayVar) && all(p.Mutexes, lex.Name) && all(p.Threads, mayThread)
}

// mayThread tells whether a thread may be printed.
func mayThread(t api.Thread) bool {
	return lex.Name(t.Name) && all(t.Locals, mayVar) && mayBlock(t.Body, 0)
}

// mayVar tells whether a variable may be printed.
func mayVar(v api.Var) bool {
	_, ok := valueText(v.First)
	return ok && lex.Name(v.Name)
}

// mayBlock tells whether a block may be printed that stands so deep. One without statements may stand at any depth: in the tree there is nothing that would stand in it.
func mayBlock(block []api.Stmt, deep int) bool {
	for _, s := range block {
		if deep > api.MaxDepth || !mayStmt(s, deep) {
			return false
		}
	}
	return true
}

// mayStmt tells whether a statement may be printed that stands in a block so deep.
func mayStmt(s api.Stmt, deep int) bool {
	switch s.Kind {
	case api.Assign:
		return lex.Name(s.Name) && mayExpr(s.E, api.MaxDepth) && noBlocks(s)
	case api.Lock, api.Unlock:
		return lex.Name(s.Name) && noExpr(s.E) && noBlocks(s)
	case api.Assert:
		return s.Name == "" && mayExpr(s.E, api.MaxDepth) && noBlocks(s)
	case api.If:
		return s.Name == "" && mayExpr(s.E, api.MaxDepth) && mayBlock(s.Body, deep+1) && mayBlock(s.Else, deep+1)
	case api.While:
		return s.Name == "" && mayExpr(s.E, api.MaxDepth) && mayBlock(s.Body, deep+1) && len(s.Else) == 0
	case api.Skip:
		return s.Name == "" && noExpr(s.E) && noBlocks(s)
	}
	return false
}

// noBlocks tells whether no statements stand in a statement.
func noBlocks(s api.Stmt) bool { return len(s.Body) == 0 && len(s.Else) == 0 }

// noExpr tells whether an expression is none.
func noExpr(e api.Expr) bool { return sameExpr(e, api.Expr{}) }

// mayExpr tells whether an expression may be printed, and is at most so high.
func mayExpr(e api.Expr, high int) bool {
	if high == 0 || len(e.Kids) != operands(e.Op) {
		return false
	}
	switch e.Op {
	case api.Lit:
		return mayLit(e.Lit) && e.Name == ""
	case api.Name:
		return lex.Name(e.Name) && e.Lit == api.Value{}
	}
	for _, kid := range e.Kids {
		if !mayExpr(kid, high-1) {
			return false
		}
	}
	return e.Name == "" && e.Lit == api.Value{}
}

// mayLit tells whether a value may be a Lit's: one of a variable's that has no sign.
func mayLit(v api.Value) bool {
	s, ok := valueText(v)
	return ok && !strings.HasPrefix(s, "-")
}

// operands tells how many Kids an operator has; -1, which no list has, if it is none.
func operands(op api.Op) int {
	switch op {
	case api.Lit, api.Name:
		return 0
	case api.Neg, api.Not, api.ToInt, api.ToReal:
		return 1
	}
	if sign(op) != "" {
		return 2
	}
	return -1
}

// all tells whether all of a list may be.
func all[T any](list []T, may func(T) bool) bool {
	for _, x := range list {
		if !may(x) {
			return false
		}
	}
	return true
}
