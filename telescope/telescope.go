// Package telescope: types one behind the other, each of which stands in the context of those ahead of it: what pi and lam
// bind, parameters, indices and arguments of families. The layers that know families share it.
package telescope

import (
	"slices"

	"provekernel/api"
	"provekernel/term"
	"provekernel/tree"
)

// Types of a context's variables, the outermost first.
type Types []api.Term

// Of takes a type apart into the types of its pi, as it is written, and what stands behind them.
func Of(t api.Term) (Types, api.Term) {
	var types Types
	for tree.Is(&t, api.Pi) {
		types = append(types, t.Args[0])
		t = t.Args[1]
	}
	return types, t
}

// With is the context with more variables. The two share their front, and what stands behind it in this one's list stays.
func (types Types) With(more ...api.Term) Types {
	return append(types[:len(types):len(types)], more...)
}

// Bound is a term of this context with its variables bound, by binders of that kind.
func (types Types) Bound(kind int, body api.Term) api.Term {
	for _, t := range slices.Backward(types) {
		body = api.Term{Kind: kind, Args: []api.Term{t, body}}
	}
	return body
}

// Variables are n of them, from that one on inwards.
func Variables(first, n int) []api.Term {
	vs := make([]api.Term, n)
	for i := range vs {
		vs[i] = tree.Variable(first - i)
	}
	return vs
}

// Moved is a term that has so many own variables behind the parameters, where more stand between these and the parameters,
// and more behind.
func Moved(t api.Term, own, between, behind int) api.Term {
	return term.Lift(term.Lift(t, behind, 0), between, own+behind)
}

// Hypothesis is (kind xs (f js (a xs))), of variables f and a outside the xs: of lam an induction hypothesis, of pi the type
// of one.
func Hypothesis(kind int, xs Types, js []api.Term, f, a int) api.Term {
	applied := term.Apply(tree.Variable(a+len(xs)), Variables(len(xs)-1, len(xs)))
	body := term.Apply(tree.Variable(f+len(xs)), append(slices.Clone(js), applied))
	return xs.Bound(kind, body)
}
