package compile

import "assize/api"

// object is what a name stands for in a thread: how it is read and given a value, if it is a variable's, and its number.
type object struct {
	read   api.Op
	write  int
	number int
}

// objects tells what each name stands for in a thread: no two of them are the same in a program that may be.
func objects(p api.Program, t api.Thread) map[string]object {
	known := map[string]object{}
	for i, name := range p.Mutexes {
		known[name] = object{number: i}
	}
	for i, v := range p.Shared {
		known[v.Name] = object{api.Fetch, api.SetShared, i}
	}
	for i, v := range t.Locals {
		known[v.Name] = object{api.Load, api.SetLocal, i}
	}
	return known
}

// layer lays a thread's nodes, one behind the other, by their statements' numbers.
type layer struct {
	known map[string]object
	nodes []api.Node
	stack int // the most that stands on the stack by the nodes so far
}

// bodyOf tells the body of a program's thread.
func bodyOf(p api.Program, t api.Thread) api.Body {
	end := size(t.Body)
	l := &layer{known: objects(p, t), nodes: make([]api.Node, 0, end)}
	l.block(t.Body, end)
	return api.Body{Locals: firsts(t.Locals), Stack: l.stack, Nodes: l.nodes}
}

// block lays the statements of a block, behind the last of which it goes on at follows, and tells where the block begins: of an empty one there, too.
func (l *layer) block(block []api.Stmt, follows int) int {
	if len(block) == 0 {
		return follows
	}
	first := len(l.nodes)
	last := len(block) - 1
	for i, s := range block[:last] {
		l.stmt(s, len(l.nodes)+size(block[i:i+1]))
	}
	l.stmt(block[last], follows)
	return first
}

// stmt lays a statement, behind which it goes on at follows, and those in its blocks.
func (l *layer) stmt(s api.Stmt, follows int) {
	place := len(l.nodes)
	// The node's place is taken first, as its number is below theirs; where it goes on shows when they are laid.
	l.nodes = append(l.nodes, api.Node{})
	n := l.work(s)
	switch s.Kind {
	case api.If:
		n.Next = l.block(s.Body, follows)
		n.Alt = l.block(s.Else, follows)
	case api.While:
		n.Next = l.block(s.Body, place)
		n.Alt = follows
	default:
		n.Next = follows
	}
	l.nodes[place] = n
}

// work tells a statement's node, but for where it goes on.
func (l *layer) work(s api.Stmt) api.Node {
	about := l.known[s.Name]
	switch s.Kind {
	case api.Assign:
		return api.Node{Code: l.expr(s.E), Kind: about.write, Arg: about.number}
	case api.Lock:
		return api.Node{Kind: api.Take, Arg: about.number}
	case api.Unlock:
		return api.Node{Kind: api.Give, Arg: about.number}
	case api.Assert:
		return api.Node{Code: l.expr(s.E), Kind: api.Demand}
	case api.If, api.While:
		return api.Node{Code: l.expr(s.E), Kind: api.Branch}
	}
	return api.Node{Kind: api.Pass}
}

// expr tells a statement's expression as instructions, for which the stack must have room.
func (l *layer) expr(e api.Expr) []api.Instr {
	l.stack = max(l.stack, room(e))
	return l.instrs(nil, e)
}

// instrs puts an expression's instructions behind a list.
func (l *layer) instrs(list []api.Instr, e api.Expr) []api.Instr {
	switch e.Op {
	case api.Lit:
		return append(list, api.Instr{Op: api.Lit, Lit: e.Lit})
	case api.Name:
		about := l.known[e.Name]
		return append(list, api.Instr{Op: about.read, Arg: about.number})
	}
	for _, kid := range e.Kids {
		list = l.instrs(list, kid)
	}
	return append(list, api.Instr{Op: e.Op})
}

// room tells how many values stand on the stack at most by an expression's instructions: below those of a kid there is one of each kid ahead of it.
func room(e api.Expr) int {
	most := 1
	for i, kid := range e.Kids {
		most = max(most, i+room(kid))
	}
	return most
}
