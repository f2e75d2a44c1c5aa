package tactic

import (
	"provekernel/api"
	"provekernel/reduce"
	"provekernel/remake"
)

// The constants that equations are made of.
const (
	equality    = "Eq"
	reflexivity = "refl"
)

// equation: left = right, of things of that type, whose sort has that level.
type equation struct {
	level            api.Level
	typ, left, right *api.Term
}

// equation is a type as an equation, as it stands or as what it comes to; false: it is none.
func (p *proof) equation(t *api.Term) (equation, bool) {
	if !p.HasEquality() {
		return equation{}, false
	}
	if eq, ok := asEquation(p.Solved(t)); ok {
		return eq, true
	}
	return asEquation(p.Solved(p.Whnf(t)))
}

// asEquation is a term as the equation that it is as it stands; false: it is none.
func asEquation(t *api.Term) (equation, bool) {
	head, args := remake.Spine(t)
	if head.Kind != api.Const || head.Name != equality || len(head.Levels) != 1 || len(args) != 3 {
		return equation{}, false
	}
	return equation{head.Levels[0], args[0], args[1], args[2]}, true
}

// says is the type that an equation is, with another left or right side.
func (eq equation) says(left, right *api.Term) *api.Term {
	return remake.Apply(remake.Constant(equality, eq.level), eq.typ, left, right)
}

// same is the proof that something is equal to itself.
func (eq equation) same(side *api.Term) *api.Term {
	return remake.Apply(remake.Constant(reflexivity, eq.level), eq.typ, side)
}

// turned is the proof of right = left, of one of left = right.
func (p *proof) turned(eq equation, proof *api.Term) *api.Term {
	motive := p.motive(eq.left, eq, func(x *api.Term) *api.Term { return eq.says(x, eq.left) })
	return p.carried(eq.left, eq.right, api.Level{}, eq, motive, eq.same(eq.left), proof)
}

// motive is the function of an x that is equal to a side of an equation, and of the proof of that, that makes a type of x.
func (p *proof) motive(side *api.Term, eq equation, made func(x *api.Term) *api.Term) *api.Term {
	x := p.Variable(eq.typ)
	same := p.Variable(eq.says(side, remake.Local(x)))
	return p.bound(api.Lam, made(remake.Local(x)), []int{x, same})
}

// carried is what the motive makes of one side, whose sort has that level, of what it makes of the other one, and of the proof
// that these are equal.
func (p *proof) carried(from, to *api.Term, l api.Level, eq equation, motive, made, proof *api.Term) *api.Term {
	rec := remake.Constant(reduce.Recursor(equality), l, eq.level)
	return remake.Apply(rec, eq.typ, from, motive, made, to, proof)
}

// goalEquation is a goal as an equation.
func (p *proof) goalEquation(g *goal) equation {
	eq, ok := p.equation(p.target(g))
	if !ok {
		p.fail()
	}
	return eq
}

// refl is for goals whose sides are equal.
func (p *proof) refl(g *goal) []*goal {
	eq := p.goalEquation(g)
	if !p.Fits(eq.left, eq.right, p.at) {
		p.fail()
	}
	p.close(g, eq.same(eq.left))
	return nil
}

// symm turns an equation round.
func (p *proof) symm(g *goal) []*goal {
	eq := p.goalEquation(g)
	left := equation{eq.level, eq.typ, eq.right, eq.left}
	c, proof := p.sibling(g, left.says(left.left, left.right))
	p.close(g, p.turned(left, proof))
	return []*goal{c}
}
