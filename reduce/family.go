package reduce

import (
	"provekernel/api"
	"provekernel/term"
	"provekernel/tree"
)

// family: what the recursor of an inductive family must know to take a step.
//
// again is the recursor with its parameters, motive and minors, which are its variables, the last minor the innermost one;
// the outermost one is the recursor itself, since its levels are known only where it stands.
type family struct {
	params, indices int
	ctors           []ctor
	again           api.Term
}

// ctor: how many arguments a constructor has behind the parameters, and its induction hypotheses.
//
// A hypothesis' variables are, from the innermost on: the constructor's own arguments, the last one first; family.again;
// the minors, the last one first; the motive; the parameters, the last one first.
type ctor struct {
	args       int
	hypotheses []api.Term
}

// given: how many arguments a recursor has ahead of the indices: parameters, motive, minors.
func (f *family) given() int { return f.params + 1 + len(f.ctors) }

// needed: how many arguments a recursor must have, the last of which is the major.
func (f *family) needed() int { return f.given() + f.indices + 1 }

// familyOf reads off a declaration, as it is written, what its recursor must know.
func familyOf(d api.Decl) *family {
	binders, _ := telescope(d.Type)
	f := &family{params: min(max(d.Arity, 0), len(binders))}
	f.indices = len(binders) - f.params
	for _, c := range d.Ctors {
		f.ctors = append(f.ctors, ctorOf(d, f, c.Type))
	}
	f.again = term.Apply(variable(f.given()), lastVariables(f.given()))
	return f
}

// ctorOf reads off a constructor's type. An argument's type knows the parameters and the arguments ahead of it: its variables
// are moved to where a hypothesis has these.
func ctorOf(d api.Decl, f *family, typ api.Term) ctor {
	binders, _ := telescope(typ)
	own := binders[min(f.params, len(binders)):]
	c := ctor{args: len(own)}
	for i, arg := range own {
		moved := term.Lift(term.Lift(arg, len(own)-i, 0), len(d.Ctors)+2, len(own))
		xs, result := telescope(moved)
		head, as := term.Spine(result)
		if head.Kind == api.Const && head.Name == d.Name && len(as) == f.params+f.indices {
			c.hypotheses = append(c.hypotheses, hypothesis(xs, as[f.params:], len(own)-1-i, len(own)))
		}
	}
	return c
}

// hypothesis is (lam xs (again js (a xs))), of variables a and again outside the xs.
func hypothesis(xs, js []api.Term, a, again int) api.Term {
	applied := term.Apply(variable(a+len(xs)), lastVariables(len(xs)))
	made := term.Apply(term.Apply(variable(again+len(xs)), js), []api.Term{applied})
	for i := range xs {
		made = api.Term{Kind: api.Lam, Args: []api.Term{xs[len(xs)-1-i], made}}
	}
	return made
}

// telescope takes a type apart into the types of its pi, as it is written, and what stands behind them.
func telescope(t api.Term) ([]api.Term, api.Term) {
	var binders []api.Term
	for tree.Is(&t, api.Pi) {
		binders = append(binders, t.Args[0])
		t = t.Args[1]
	}
	return binders, t
}

// lastVariables are the n innermost variables, from the outermost of them on.
func lastVariables(n int) []api.Term {
	vs := make([]api.Term, n)
	for i := range vs {
		vs[i] = variable(n - 1 - i)
	}
	return vs
}

func variable(n int) api.Term { return api.Term{Kind: api.Var, N: n} }
