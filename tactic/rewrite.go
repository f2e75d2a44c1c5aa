package tactic

import (
	"provekernel/api"
	"provekernel/remake"
	"provekernel/tree"
)

// rewrite puts the right side of an equation in all places of a goal that are the same as the first that is the left one.
func (p *proof) rewrite(g *goal, e *api.Expr) []*goal {
	proof, eq := p.rule(g, p.Infer(e, g.Context))
	target := p.target(g)
	s := &seeker{proof: p, pattern: eq.left, form: p.Whnf(eq.left)}
	s.stays = p.StaysForm(s.form)
	part := s.first(target, nil)
	if part == nil {
		p.fail()
	}
	target = p.Solved(target)
	part = p.Solved(part)
	l, ok := p.LevelOf(target)
	if !ok {
		p.fail()
	}
	become := func(x *api.Term) *api.Term { return p.exchanged(target, part, x) }
	motive := p.motive(eq.right, eq, become)
	if !p.IsRight(g.Context, motive) {
		p.fail()
	}
	c, made := p.sibling(g, become(eq.right))
	p.close(g, p.carried(eq.right, eq.left, l, eq, motive, made, p.turned(eq, proof)))
	return []*goal{c}
}

// rule is an equation, behind the pi of a type, with holes for these: its proof, and what it says.
func (p *proof) rule(g *goal, f Typed) (*api.Term, equation) {
	rest := remake.Opened{Term: f.Type}
	for made := f.Term; ; {
		if !tree.Is(rest.Term, api.Pi) {
			if eq, ok := p.equation(p.Work().Put(rest)); ok {
				return made, eq
			}
		}
		pi, ok := p.asPi(rest)
		if !ok {
			p.fail()
		}
		hole := p.Hole(g.Context, p.domain(pi), p.at)
		made, rest = remake.Apply(made, hole), behind(pi, hole)
	}
}

// seeker looks for the first part of a goal that fits.
type seeker struct {
	*proof
	pattern *api.Term
	form    *api.Term // its weak head normal form
	stays   bool      // whatever is found
}

// first is the first part that fits, of a term whose outermost variables stand for these locals: a part ahead of its own, the left
// one ahead of the right one. nil: none does.
func (s *seeker) first(t *api.Term, locals []*api.Term) *api.Term {
	opened := s.Work().Filled(t, locals)
	if s.mayFit(opened) && s.FitsAtOnce(s.pattern, opened, s.at) {
		return t
	}
	if t.Kind == api.Const {
		return nil // what a hole hangs on is no part of the goal
	}
	for i := range t.Args {
		within := locals
		if tree.Binders(t, i) > 0 {
			local := s.Variable(s.Work().Filled(&t.Args[0], locals))
			within = append(locals[:len(locals):len(locals)], remake.Local(local))
		}
		if part := s.first(&t.Args[i], within); part != nil {
			return part
		}
	}
	return nil
}

// mayFit is false where two terms have heads that cannot be equal: most have, and that is seen soon.
func (s *seeker) mayFit(t *api.Term) bool {
	a, b := remake.HeadOf(s.form), remake.HeadOf(t)
	if !s.stays || !s.IsForm(t) || s.IsOpen(t) || a.Kind == api.Lam || b.Kind == api.Lam {
		return true
	}
	return a.Kind == b.Kind && a.Name == b.Name
}

// exchanged is a term with another one, in which no variable is free, in all places that are the same as that part.
func (p *proof) exchanged(t, part, by *api.Term) *api.Term {
	p.Work().Spend(1)
	if tree.Same(t, part) {
		return by
	}
	if t.Kind == api.Const {
		return t
	}
	args, other := remake.Parts(t.Args, func(arg *api.Term, _ int) *api.Term { return p.exchanged(arg, part, by) })
	if !other {
		return t
	}
	return &api.Term{Kind: t.Kind, N: t.N, Name: t.Name, Levels: t.Levels, Args: args}
}
