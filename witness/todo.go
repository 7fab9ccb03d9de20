package witness

import (
	"assize/api"
	"assize/tree"
)

// todo is what a thread has still to do: the statements of a block, of which there is at least one, the number of the first, and what stands behind them. Nothing to do is nil.
type todo struct {
	block  []api.Stmt
	number int
	rest   *todo
}

// put tells what there is to do with a block at the front, whose first statement has that number.
func put(block []api.Stmt, number int, rest *todo) *todo {
	if len(block) == 0 {
		return rest
	}
	return &todo{block: block, number: number, rest: rest}
}

// statement tells the first statement.
func (l *todo) statement() api.Stmt { return l.block[0] }

// behind tells what there is to do behind the first statement's step, if its condition was so, or was not.
func (l *todo) behind(isTrue bool) *todo {
	s := l.statement()
	body := l.number + 1
	other := body + size(s.Body)
	rest := put(l.block[1:], other+size(s.Else), l.rest)
	switch {
	case s.Kind == api.While && isTrue:
		return put(s.Body, body, l)
	case s.Kind == api.If && isTrue:
		return put(s.Body, body, rest)
	case s.Kind == api.If:
		return put(s.Else, other, rest)
	}
	return rest
}

// size tells how many numbers a block's statements take, with those in their blocks.
func size(block []api.Stmt) int {
	return tree.Size(api.Program{Threads: []api.Thread{{Body: block}}})
}
