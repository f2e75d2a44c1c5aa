package reduce

import (
	"provekernel/api"
	"provekernel/telescope"
	"provekernel/term"
	"provekernel/tree"
)

// family: what the recursor of an inductive family must know to take a step.
//
// again is the recursor with its parameters, motive and minors, which are its variables, the last minor the innermost one;
// the outermost one is the recursor itself, since its levels are known only where it stands.
type family struct {
	params, indices int
	ctors           []ctor
	again           api.Term
}

// ctor: how many arguments a constructor has behind the parameters, and its induction hypotheses.
//
// A hypothesis' variables are, from the innermost on: the constructor's own arguments, the last one first; family.again;
// the minors, the last one first; the motive; the parameters, the last one first.
type ctor struct {
	args       int
	hypotheses []api.Term
}

// given: how many arguments a recursor has ahead of the indices: parameters, motive, minors.
func (f *family) given() int { return f.params + 1 + len(f.ctors) }

// needed: how many arguments a recursor must have, the last of which is the major.
func (f *family) needed() int { return f.given() + f.indices + 1 }

// familyOf reads off a declaration, as it is written, what its recursor must know.
func familyOf(d api.Decl) *family {
	types, _ := telescope.Of(d.Type)
	f := &family{params: min(max(d.Arity, 0), len(types))}
	f.indices = len(types) - f.params
	for _, c := range d.Ctors {
		f.ctors = append(f.ctors, ctorOf(d, f, c.Type))
	}
	f.again = term.Apply(tree.Variable(f.given()), telescope.Variables(f.given()-1, f.given()))
	return f
}

// ctorOf reads off a constructor's type. An argument's type knows the parameters and the arguments ahead of it: its variables
// are moved to where a hypothesis has these.
func ctorOf(d api.Decl, f *family, typ api.Term) ctor {
	types, _ := telescope.Of(typ)
	own := types[min(f.params, len(types)):]
	c := ctor{args: len(own)}
	for i, arg := range own {
		xs, result := telescope.Of(telescope.Moved(arg, i, len(d.Ctors)+2, len(own)-i))
		head, as := term.Spine(result)
		if head.Kind == api.Const && head.Name == d.Name && len(as) == f.params+f.indices {
			c.hypotheses = append(c.hypotheses, telescope.Hypothesis(api.Lam, xs, as[f.params:], len(own), len(own)-1-i))
		}
	}
	return c
}
