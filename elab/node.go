package elab

import (
	"provekernel/api"
	"provekernel/remake"
)

// kind of a node.
type kind int

// The kinds of nodes.
const (
	variable kind = iota // number: how many variables stand outside of it
	universe             // levels[0]
	named                // name, levels
	opening              // number: the hole's; it may have the variables of all binders around it
	applied              // parts: the function, its arguments
	function             // parts: the type, the body
	product              // likewise
	binding              // parts: the type, the value, the body
	ascribed             // parts: an expression, its type
)

// node of a text whose names have been told apart, and which has all its holes: the text is that term, with these filled in.
type node struct {
	kind   kind
	at     int
	number int
	name   string
	levels []api.Level
	parts  []*node
	made   *api.Term // the term, once it has been asked for where it stands

	implicit []bool // of a constant that may have more arguments: the signs of these
}

// roomOfVariable: how much more a variable that is kept with a hole counts than a part of a term that is looked at.
const roomOfVariable = 4

// scope: the locals that the variables around a node stand for, the outermost first.
type scope []int

// with is this scope with one more variable. The two share their front, and what stands behind it in this one's list stays.
func (s scope) with(local int) scope { return append(s[:len(s):len(s)], local) }

// term is a node, that stands in that scope, as a term: with locals for its variables, with holes, without ascriptions.
func (j *judge) term(n *node, s scope) *api.Term { return j.termUnder(n, s, len(s)) }

// termUnder is a part of a node as a term, with that many variables around it: those behind the scope's are the term's own.
func (j *judge) termUnder(n *node, s scope, depth int) *api.Term {
	if depth > len(s) {
		return j.termOf(n, s, depth)
	}
	if n.made == nil {
		n.made = j.termOf(n, s, depth)
	}
	return n.made
}

func (j *judge) termOf(n *node, s scope, depth int) *api.Term {
	j.Spend(1)
	switch n.kind {
	case variable:
		return j.variable(s, n.number, depth)
	case universe:
		return &api.Term{Kind: api.Sort, Levels: n.levels}
	case named:
		return &api.Term{Kind: api.Const, Name: n.name, Levels: n.levels}
	case opening:
		return j.openingOf(n, s, depth)
	case applied:
		t := j.termUnder(n.parts[0], s, depth)
		for _, part := range n.parts[1:] {
			t = &api.Term{Kind: api.App, Args: []api.Term{*t, *j.termUnder(part, s, depth)}}
		}
		return t
	case ascribed:
		return j.termUnder(n.parts[0], s, depth)
	}
	return j.binderOf(n, s, depth)
}

// openingOf is termOf a hole. Where no local stands around, it is what has been found for it, as that is kept.
func (j *judge) openingOf(n *node, s scope, depth int) *api.Term {
	t := remake.Hole(n.number, nil)
	if value := j.valueOf(t); value != nil && len(s) == 0 {
		return value
	}
	t.Args = j.variables(s, depth)
	return t
}

// binderOf is termOf where the last part of a node has one variable more than the others.
func (j *judge) binderOf(n *node, s scope, depth int) *api.Term {
	t := &api.Term{Kind: api.Lam}
	switch n.kind {
	case product:
		t.Kind = api.Pi
	case binding:
		t.Kind = api.Let
	}
	last := len(n.parts) - 1
	for _, part := range n.parts[:last] {
		t.Args = append(t.Args, *j.termUnder(part, s, depth))
	}
	t.Args = append(t.Args, *j.termUnder(n.parts[last], s, depth+1))
	return t
}

// variable is the one that has that many outside of it, with so many around.
func (j *judge) variable(s scope, number, depth int) *api.Term {
	if number < len(s) {
		return j.locals[s[number]].term
	}
	return remake.Variable(depth - 1 - number)
}

// variables are all that stand around something, the outermost first. They take up much room, where there are many: that counts.
func (j *judge) variables(s scope, depth int) []api.Term {
	j.Spend(roomOfVariable * depth)
	all := make([]api.Term, depth)
	for number := range all {
		all[number] = *j.variable(s, number, depth)
	}
	return all
}
