package check

import (
	"math"

	"provekernel/api"
	"provekernel/term"
)

// scope: the variables that a term may name, from the innermost one on.
//
// The chapter puts a let's value in the place of its variable, and finds the type of what comes of that. The scope keeps the
// value instead, with the type that has been found for it: the value's type would be found anew, each time the same, wherever
// it had been put in, and lets within lets would take time without end. Types that are formed have the values put in.
type scope struct {
	outer  *scope
	stands *value // what the variable stands for: a local, or a let's value
	typ    *value // its type
	size   int    // how many variables there are
}

// value: a term and its scope, or what has been formed of them.
type value struct {
	term  *api.Term
	scope *scope
	made  *formed
}

// formed is the term with what its variables stand for. It is made when it is asked for: many never are.
func (v *value) formed() formed {
	if v.made == nil {
		made := filled(v.term, v.scope.fill)
		v.made = &made
	}
	return *v.made
}

// contextOf is the scope of a context alone.
func contextOf(ctx []api.Term) *scope {
	var s *scope
	for i := range ctx {
		s = s.with(s.enclose(&ctx[i]))
	}
	return s
}

// enclose is a term of this scope.
func (s *scope) enclose(t *api.Term) *value { return &value{term: t, scope: s} }

// with is this scope with one more variable of the context.
func (s *scope) with(typ *value) *scope {
	itself := local(s.count())
	return &scope{outer: s, stands: &value{made: &itself}, typ: typ, size: s.count() + 1}
}

// withLet is this scope with a let's variable.
func (s *scope) withLet(stands *value, typ formed) *scope {
	return &scope{outer: s, stands: stands, typ: &value{made: &typ}, size: s.count() + 1}
}

func (s *scope) count() int {
	if s == nil {
		return 0
	}
	return s.size
}

// find is the scope whose innermost variable is that one; nil: there is none.
func (s *scope) find(n int) *scope {
	if n < 0 || n >= s.count() {
		return nil
	}
	for range n {
		s = s.outer
	}
	return s
}

// fill is what a variable stands for. One that is not there can stand in the types of a context alone: these are not looked at.
func (s *scope) fill(n int) formed {
	at := s.find(n)
	if at == nil {
		return local(s.count() - 1 - n)
	}
	return at.stands.formed()
}

// told is what has been formed as a term of this scope, that is a context's, with no part of it anyone else's.
func (s *scope) told(t formed) api.Term {
	return term.Lift(bound(&t.term, math.MinInt, s.count()).term, 0, 0)
}
