package reduce

import (
	"provekernel/api"
	"provekernel/tree"
)

// closure is a term together with what its variables and its levels' parameters stand for: the term that comes of putting
// these in. It puts substitution off until the term is told, so that a step need not copy what it puts in.
//
// A variable without a scope stands for itself. It has the number that it would have outside the term that is reduced;
// those that are bound within that term have numbers below 0 (see bound).
type closure struct {
	term  *api.Term
	scope *scope
}

// thunk is a closure that may stand in many places.
type thunk struct {
	closure
	form *form // its weak head normal form, once that has been found: steps are counted each time, but taken only once
}

// form: a weak head normal form, and how many steps lead to it.
type form struct {
	head  closure
	args  []*thunk
	steps int
}

// scope: what variables stand for, those of values (the outermost first) ahead of those of outer.
type scope struct {
	values []*thunk
	outer  *scope
	levels *leveling // what parameters of levels stand for
}

// find is what a variable stands for: never a variable that has a scope of its own.
func (s *scope) find(n int) *thunk {
	for ; s != nil; s = s.outer {
		if 0 <= n && n < len(s.values) {
			return s.values[len(s.values)-1-n]
		}
		n -= len(s.values)
	}
	return outside(n)
}

// outside is a variable that stands for itself.
func outside(n int) *thunk {
	t := tree.Variable(n)
	return &thunk{closure: closure{term: &t}}
}

// bound is the number of the variable that a binder under that many others binds, while the term is reduced.
func bound(depth int) int { return -1 - depth }

// enclose is a term in this scope. A variable is looked up at once, lest chains of variables grow from step to step.
func (s *scope) enclose(t *api.Term) *thunk {
	if t.Kind == api.Var {
		return s.find(t.N)
	}
	return &thunk{closure: closure{t, s}}
}

// with is this scope with more variables, the outermost first.
func (s *scope) with(values ...*thunk) *scope {
	return &scope{values: values, outer: s, levels: s.leveling()}
}

func (s *scope) leveling() *leveling {
	if s == nil {
		return nil
	}
	return s.levels
}
