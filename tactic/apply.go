package tactic

import (
	"slices"

	"provekernel/api"
	"provekernel/remake"
	"provekernel/tree"
)

// argument that a function is applied to, to become what a goal asks for.
type argument struct {
	term     *api.Term
	typ      *api.Term
	explicit bool
	own      *goal // of one that nothing else speaks of; nil: it may be found
}

// apply makes a goal of each explicit argument that has not been found, where a function applied to them has the goal's type.
func (p *proof) apply(g *goal, f Typed) []*goal {
	return p.leave(g, f, p.arguments(g, f, false))
}

// leave says that a goal is a function applied to arguments: the goals that this leaves.
func (p *proof) leave(g *goal, f Typed, args []argument) []*goal {
	made := f.Term
	for _, arg := range args {
		made = remake.Apply(made, arg.term)
	}
	p.close(g, made)
	var left []*goal
	for _, arg := range args {
		switch {
		case arg.own != nil:
			left = append(left, arg.own)
		case arg.explicit:
			c := &goal{Context: g.clipped(), target: remake.Opened{Term: arg.typ}, hole: arg.term}
			if p.isHole(c) {
				left = append(left, c)
			}
		}
	}
	return left
}

// arguments are as many as a function must have for its type to become the goal; given: the first explicit one will be given.
func (p *proof) arguments(g *goal, f Typed, given bool) []argument {
	target := p.target(g)
	form := p.Whnf(target)
	noPi := p.StaysForm(form) && !tree.Is(form, api.Pi)
	rest := remake.Opened{Term: f.Type}
	var args []argument
	for {
		if !noPi || !tree.Is(rest.Term, api.Pi) {
			if p.Fits(p.Work().Put(rest), target, p.at) {
				return args
			}
		}
		pi, ok := p.asPi(rest)
		if !ok {
			p.fail()
		}
		explicit := len(args) >= len(f.Implicit) || !f.Implicit[len(args)]
		arg := argument{typ: p.domain(pi), explicit: explicit}
		if explicit && !given && g.hole == nil && !p.Work().HasVariable(&pi.Term.Args[1], 0) {
			arg.own, arg.term = p.sibling(g, arg.typ)
		} else {
			arg.term = p.Hole(g.Context, arg.typ, p.at)
		}
		given = given && !explicit
		args = append(args, arg)
		rest = behind(pi, arg.term)
	}
}

// nameless is a context whose variables are out of sight: names are those of constants.
func (c Context) nameless() Context { return Context{make([]string, len(c.Names)), c.Locals} }

// constructor is that one, from 1 on, of the family that a goal is.
func (p *proof) constructor(g *goal, number int) Typed {
	made, ok := p.familyOf(p.target(g))
	if !ok || number < 1 || number > len(made.Ctors) {
		p.fail()
	}
	name := &api.Expr{Kind: api.XName, At: p.at, Name: made.Ctors[number-1]}
	return p.Infer(name, g.nameless())
}

// exists is the first constructor, with its first explicit argument.
func (p *proof) exists(g *goal, e *api.Expr) []*goal {
	f := p.constructor(g, 1)
	args := p.arguments(g, f, true)
	given := slices.IndexFunc(args, func(arg argument) bool { return arg.explicit })
	if given < 0 {
		p.fail()
	}
	arg := &args[given]
	value := p.Check(e, g.Context, p.Solved(arg.typ), true)
	if !p.Fits(arg.term, value, p.at) {
		p.fail()
	}
	arg.explicit = false // it is no goal, whatever is left open in it
	return p.leave(g, f, args)
}
