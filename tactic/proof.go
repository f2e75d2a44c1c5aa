package tactic

import (
	"slices"

	"provekernel/api"
	"provekernel/fault"
	"provekernel/remake"
	"provekernel/tree"
)

// goal: something of that type is to be found, in that context.
type goal struct {
	Context
	target remake.Opened
	slot   int       // the place of the proof where it will stand
	hole   *api.Term // of a goal that others speak of: what it is there; nil: none does
}

// slot: a place of the proof. What will stand there is a function of locals. Nothing but the proof knows of it: so it need not be
// told what the variables of its context stand for, of which there may be very many.
type slot struct {
	locals []int
	body   *api.Term
}

// proof: what tactics have made so far.
type proof struct {
	Judge
	slots  []slot
	goals  []*goal     // those that are left, the first one at the end
	at     int         // of the tactic that runs
	places map[int]int // of locals that the proof binds: how many binders stand outside of each
}

// clipped is a context that shares its variables with another one, but not the room behind them.
func (c Context) clipped() Context { return Context{slices.Clip(c.Names), slices.Clip(c.Locals)} }

// with is a context with more variables, that takes the room behind those of this one.
func (c Context) with(names []string, locals []int) Context {
	return Context{append(c.Names, names...), append(c.Locals, locals...)}
}

// find is the place of the innermost variable of that name; below 0: there is none.
func (c Context) find(name string) int {
	for i, other := range slices.Backward(c.Names) {
		if other == name && name != "" {
			return i
		}
	}
	return -1
}

// fail throws that the tactic that runs cannot do it.
func (p *proof) fail() { fault.ThrowAt(api.FTactic, p.at) }

// run runs a tactic on the first goal. What cannot be done is told at the tactic, but for names that are not there.
func (p *proof) run(t *api.Tactic) {
	p.at = t.At
	_, err := fault.Caught(func() *proof {
		g := p.next()
		if g == nil {
			p.fail()
		}
		left := p.done(t, g)
		slices.Reverse(left)
		p.goals = append(p.goals, left...)
		return p
	})
	switch code, at := api.Code(err); code {
	case 0:
	case api.FName, api.FText, api.FTired:
		fault.ThrowAt(code, at)
	default:
		p.fail()
	}
}

// next takes the first goal away that has not been found meanwhile; nil: there is none.
func (p *proof) next() *goal {
	for len(p.goals) > 0 {
		last := len(p.goals) - 1
		g := p.goals[last]
		p.goals = p.goals[:last]
		if g.hole == nil || p.isHole(g) {
			return g
		}
	}
	return nil
}

// isHole tells whether a goal that others speak of is still to be found. It may have come to be another hole.
func (p *proof) isHole(g *goal) bool {
	g.hole = p.Solved(g.hole)
	return g.hole.Kind == api.Const && p.IsOpen(g.hole)
}

// done does what a tactic says to a goal: the goals that it leaves.
func (p *proof) done(t *api.Tactic, g *goal) []*goal {
	switch t.Kind {
	case api.TIntro:
		return p.intro(g, t.Names)
	case api.TExact:
		return p.exact(g, expr(t))
	case api.TApply:
		return p.apply(g, p.Infer(expr(t), g.Context))
	case api.TAssumption:
		return p.assumption(g)
	case api.TRefl:
		return p.refl(g)
	case api.TInduction:
		return p.induction(g, name(t), true)
	case api.TCases:
		return p.induction(g, name(t), false)
	case api.TRewrite:
		return p.rewrite(g, expr(t))
	case api.THave:
		return p.have(g, name(t), expr(t))
	case api.TConstructor:
		return p.apply(g, p.constructor(g, t.Number))
	case api.TExists:
		return p.exists(g, expr(t))
	case api.TSimpl:
		return []*goal{p.restated(g, p.Normal(p.target(g)))}
	case api.TSymm:
		return p.symm(g)
	}
	fault.ThrowAt(api.FText, t.At)
	return nil
}

// expr is the expression of a tactic. Parse answers none that lacks it.
func expr(t *api.Tactic) *api.Expr {
	if len(t.Exprs) == 0 {
		fault.ThrowAt(api.FText, t.At)
	}
	return &t.Exprs[0]
}

// name is the name of a tactic that has one.
func name(t *api.Tactic) string {
	if len(t.Names) == 0 {
		fault.ThrowAt(api.FText, t.At)
	}
	return t.Names[0]
}

// newSlot makes a place for a function of these locals.
func (p *proof) newSlot(locals []int) int {
	p.slots = append(p.slots, slot{locals: locals})
	return len(p.slots) - 1
}

// target is what is to be found, whole.
func (p *proof) target(g *goal) *api.Term {
	g.target = remake.Opened{Term: p.Solved(p.Work().Put(g.target))}
	return g.target.Term
}

// restated is a goal told in other words.
func (p *proof) restated(g *goal, target *api.Term) *goal {
	g.target = remake.Opened{Term: target}
	return g
}

// child is a goal in a context that has some more variables than that of another one; and a function of these, that stands in the
// proof where the goal will.
func (p *proof) child(g *goal, c Context, target *api.Term) (*goal, *api.Term) {
	more := slices.Clone(c.Locals[len(g.Locals):])
	made := &goal{Context: c, target: remake.Opened{Term: target}}
	if g.hole == nil {
		made.slot = p.newSlot(more)
		return made, remake.Slot(made.slot)
	}
	made.hole = p.Hole(c, target, p.at)
	return made, p.bound(api.Lam, made.hole, more)
}

// sibling is a child of a goal that has no other variables.
func (p *proof) sibling(g *goal, target *api.Term) (*goal, *api.Term) {
	return p.child(g, g.clipped(), target)
}

// close says what a goal is.
func (p *proof) close(g *goal, t *api.Term) {
	if g.hole == nil {
		p.slots[g.slot].body = t
	} else if !p.Fits(g.hole, t, p.at) {
		p.fail()
	}
}

// bound is a term under binders of that kind, of these locals and their types.
func (p *proof) bound(kind int, t *api.Term, locals []int) *api.Term {
	made := p.Work().Bound(t, locals)
	for i, local := range slices.Backward(locals) {
		made = remake.Binder(kind, p.Work().Bound(p.TypeOf(local), locals[:i]), made)
	}
	return made
}

// asPi is a type as a pi, which it may come to; false: it does not.
func (p *proof) asPi(typ remake.Opened) (remake.Opened, bool) {
	if tree.Is(typ.Term, api.Pi) {
		return typ, true
	}
	form := p.Whnf(p.Work().Put(typ))
	return remake.Opened{Term: form}, tree.Is(form, api.Pi)
}

// behind is what stands behind a pi whose variable stands for that. None but this one adds to the list of what it is opened by.
func behind(pi remake.Opened, arg *api.Term) remake.Opened {
	return remake.Opened{Term: &pi.Term.Args[1], Args: append(pi.Args, arg)}
}

// domain is the type of a pi's variable.
func (p *proof) domain(pi remake.Opened) *api.Term {
	return p.Work().Filled(&pi.Term.Args[0], pi.Args)
}

// told is what stands in a slot, under so many binders.
func (p *proof) told(number, depth int) *api.Term {
	s := p.slots[number]
	var types []*api.Term
	for i, local := range s.locals {
		types = append(types, p.placed(p.TypeOf(local), depth+i))
		p.places[local] = depth + i
	}
	made := p.placed(s.body, depth+len(types))
	for _, typ := range slices.Backward(types) {
		made = remake.Binder(api.Lam, typ, made)
	}
	return made
}

// placed is a term under so many binders, with variables for its locals, and with what stands in its slots.
func (p *proof) placed(t *api.Term, depth int) *api.Term {
	t = p.Solved(t)
	if at, ok := p.FirstOpen(t); ok {
		fault.ThrowAt(api.FStuck, at)
	}
	c := remake.Change{Budget: p.Work(), Put: func(leaf *api.Term, binders int) *api.Term {
		if number, ok := remake.SlotNumber(leaf); ok {
			return p.told(number, depth+binders)
		}
		if local, ok := remake.LocalNumber(leaf); ok {
			return remake.Variable(depth + binders - 1 - p.places[local])
		}
		return nil
	}}
	return c.Under(t, 0)
}
