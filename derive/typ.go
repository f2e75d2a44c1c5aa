package derive

import (
	"provekernel/api"
	"provekernel/tree"
)

// typ is a type that a step derives, or what comes of one. It is never changed: terms of several share their parts.
type typ struct {
	api.Term
	number   int32
	size     int  // how many parts it has
	free     int  // one more than the greatest number of its free variables
	zero     bool // the free variable 0 stands in it; known of the codomain of a product alone
	form     *typ // its weak head normal form, once that has been found
	codomain *typ // of a product, once that has been asked for
	lowered  *typ // it with its free variables down by one, likewise
}

// rewriting makes a type anew, with something else in the place of its free variables. What it does not change it shares.
type rewriting struct {
	*budget
	list  func(n int) []api.Term                    // makes one of that many
	put   func(n, binders int) (api.Term, int, int) // for a variable, by its number outside: a term, how many parts it has, its free
	stack []api.Term                                // what has been made and has no place yet
	size  int                                       // how many parts have been made so far
	free  int                                       // of what has been made
}

// made is a type made anew.
func (r *rewriting) made(t *api.Term) *typ {
	r.under(t, 0)
	return &typ{Term: r.stack[0], size: r.size, free: r.free}
}

func (r *rewriting) count(parts int) {
	r.size += parts
	fits(r.size)
}

// under puts what it makes of a part, that stands under so many binders, on the stack, and tells whether it is another one.
func (r *rewriting) under(t *api.Term, binders int) bool {
	r.work(1)
	if t.Kind == api.Var && t.N >= binders {
		put, size, free := r.put(t.N-binders, binders)
		r.count(size)
		r.free = max(r.free, free)
		r.stack = append(r.stack, put)
		return true
	}
	if len(t.Args) == 0 {
		r.count(tree.Parts(t))
		r.stack = append(r.stack, *t)
		return false
	}
	r.count(1)
	base, changed := len(r.stack), false
	for i := range t.Args {
		other := r.under(&t.Args[i], binders+tree.Binders(t, i))
		changed = changed || other
	}
	made := *t
	if changed {
		made.Args = r.list(len(t.Args))
		copy(made.Args, r.stack[base:])
	}
	r.stack = append(r.stack[:base], made)
	return changed
}

// rewritten is a type with what put tells in the place of its free variables.
func (y *typist) rewritten(t *api.Term, put func(n, binders int) (api.Term, int, int)) *typ {
	r := rewriting{budget: &y.budget, list: y.list, put: put, stack: y.stack}
	made := r.made(t)
	y.stack = r.stack[:0] // its room is used again: it grows with each deep type
	return y.known(made)
}

// listsAtOnce: how many terms' room is made at once.
const listsAtOnce = 128

// list is one of that many terms, out of the room that was made for many: types are made of very many short ones.
func (y *typist) list(n int) []api.Term {
	y.take(termBytes * n)
	if len(y.lists) < n {
		y.lists = make([]api.Term, max(n, listsAtOnce))
	}
	made := y.lists[:n:n]
	y.lists = y.lists[n:]
	return made
}

// measured is a type as it is. Its free variables need no place of their own: they stay.
func (y *typist) measured(t api.Term) *typ {
	made := &typ{Term: t}
	var walk func(t *api.Term, binders int)
	walk = func(t *api.Term, binders int) {
		y.work(1)
		if t.Kind == api.Var && t.N >= binders {
			made.free = max(made.free, t.N-binders+1)
			made.zero = made.zero || t.N == binders
		}
		if len(t.Args) == 0 {
			made.size += tree.Parts(t)
			return
		}
		made.size++
		for i := range t.Args {
			walk(&t.Args[i], binders+tree.Binders(t, i))
		}
	}
	walk(&t, 0)
	return y.known(made)
}

// known gives a type its number.
func (y *typist) known(made *typ) *typ {
	fits(made.size)
	y.take(typBytes)
	y.types++
	made.number = y.types
	return made
}
