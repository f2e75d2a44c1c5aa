package tactic

import (
	"provekernel/api"
	"provekernel/remake"
)

// intro makes variables of the pi that a goal begins with.
func (p *proof) intro(g *goal, names []string) []*goal {
	for _, name := range names {
		pi, ok := p.asPi(g.target)
		if !ok {
			p.fail()
		}
		local := p.Variable(p.domain(pi))
		g = p.entered(g, name, local, behind(pi, remake.Local(local)))
	}
	return []*goal{g}
}

// entered is a goal whose pi's variable is that local, and which is what stands behind the pi.
func (p *proof) entered(g *goal, name string, local int, target remake.Opened) *goal {
	if g.hole == nil {
		p.slots[g.slot].locals = append(p.slots[g.slot].locals, local)
		g.Context, g.target = g.with([]string{name}, []int{local}), target
		return g
	}
	c, function := p.child(g, g.with([]string{name}, []int{local}), p.Work().Put(target))
	p.close(g, function)
	return c
}

func (p *proof) exact(g *goal, e *api.Expr) []*goal {
	p.close(g, p.Check(e, g.Context, p.target(g), g.hole != nil))
	return nil
}

// assumption takes the last variable whose type is the goal.
func (p *proof) assumption(g *goal) []*goal {
	target := p.target(g)
	for i := len(g.Locals) - 1; i >= 0; i-- {
		if g.Names[i] != "" && p.FitsAtOnce(p.TypeOf(g.Locals[i]), target, p.at) {
			p.close(g, remake.Local(g.Locals[i]))
			return nil
		}
	}
	p.fail()
	return nil
}

// have makes a goal of a type, and lets the goal have a variable of it.
func (p *proof) have(g *goal, name string, e *api.Expr) []*goal {
	typ := p.Sort(e, g.Context)
	ahead, value := p.sibling(g, typ)
	then, function := p.child(g, g.with([]string{name}, []int{p.Variable(typ)}), p.target(g))
	p.close(g, remake.Apply(function, value))
	return []*goal{ahead, then}
}
