package elab

import (
	"slices"

	"provekernel/api"
	"provekernel/remake"
	"provekernel/tree"
)

// verdict on whether something can be filled into a hole.
type verdict int

// The verdicts.
const (
	cannot verdict = iota
	unclear
	done
)

// filledBy is fits of terms at least one of which has a hole at its head.
func (j *judge) filledBy(a, b *api.Term) bool {
	if isSameHole(a, b) {
		return j.same(j.solved(a), j.solved(b)) || j.wait(a, b)
	}
	first := j.fillTried(a, b)
	if first == done {
		return true
	}
	second := j.fillTried(b, a)
	if second == done {
		return true
	}
	if first == unclear || second == unclear {
		return j.wait(a, b)
	}
	return false
}

// isSameHole tells whether two terms have the same hole at their heads.
func isSameHole(a, b *api.Term) bool {
	m, ok := remake.HoleNumber(remake.HeadOf(a))
	n, also := remake.HoleNumber(remake.HeadOf(b))
	return ok && also && m == n
}

// fillTried is fillIn, with all that it has found taken back unless it is done. A term without a hole at its head cannot be.
func (j *judge) fillTried(a, t *api.Term) verdict {
	if !j.isOpen(a) {
		return cannot
	}
	var v verdict
	j.tried(func() bool {
		v = j.fillIn(a, t)
		return v == done
	})
	return v
}

// fillIn makes a hole, applied to different variables, what it must be to be that term.
func (j *judge) fillIn(a, t *api.Term) verdict {
	number, locals, ok := j.pattern(a)
	if !ok {
		return unclear
	}
	t = j.solved(t)
	body, v := j.closed(number, t, locals)
	if v != done {
		// what the hole may not have may vanish by steps
		j.refresh()
		form, _, err := j.env.Normal(*t, j.fuel)
		if err != nil {
			return v
		}
		if body, v = j.closed(number, &form, locals); v != done {
			return v
		}
	}
	j.fill(number, body)
	return j.typeAgrees(number, remake.HeadOf(a))
}

// pattern takes a hole applied to different locals apart: its number, and theirs. false: it is applied to something else.
func (j *judge) pattern(a *api.Term) (int, []int, bool) {
	head, args := remake.Spine(a)
	number, _ := remake.HoleNumber(head)
	var locals []int
	met := map[int]int{}
	for i, arg := range append(remake.PartsOf(head), args...) {
		j.Spend(1)
		local, ok := remake.LocalNumber(j.headed(arg))
		if _, twice := met[local]; !ok || twice {
			return 0, nil, false
		}
		met[local] = i
		locals = append(locals, local)
	}
	return number, locals, true
}

// typeAgrees tells whether what was filled into a hole has the hole's type, as far as both are known.
func (j *judge) typeAgrees(number int, at *api.Term) verdict {
	h := j.terms[number]
	if h.typ == nil {
		return done
	}
	typ, ok := j.typeOf(j.Filled(h.value, remake.PartsOf(at)))
	if ok && !j.fits(typ, j.Filled(h.typ, remake.PartsOf(at))) {
		return cannot
	}
	return done
}

// closed is a term as what can be filled into a hole that is applied to these locals: those of its context, and some more, for
// which it is a function.
func (j *judge) closed(number int, t *api.Term, locals []int) (*api.Term, verdict) {
	arity := j.terms[number].arity
	body, v := j.closing(number, locals).made(t)
	for i := len(locals) - 1; i >= arity && v == done; i-- {
		var typ *api.Term
		typ, v = j.closing(number, locals[:i]).made(j.solved(j.locals[locals[i]].typ))
		body = contracted(&api.Term{Kind: api.Lam, Args: []api.Term{*typ, *body}}, &j.Budget)
	}
	return body, v
}

// contracted is f of (lam A (app f #0)), where #0 does not stand in f; of another function itself.
func contracted(t *api.Term, b *remake.Budget) *api.Term {
	body := &t.Args[1]
	if !tree.Is(body, api.App) || body.Args[1].Kind != api.Var || body.Args[1].N != 0 {
		return t
	}
	stands := false
	c := remake.Change{Budget: b, Put: func(leaf *api.Term, binders int) *api.Term {
		if leaf.Kind != api.Var || leaf.N < binders {
			return nil
		}
		stands = stands || leaf.N == binders
		return remake.Variable(leaf.N - 1)
	}}
	if f := c.Under(&body.Args[0], 0); !stands {
		return f
	}
	return t
}

// closing makes variables of locals in a term that is to be filled into a hole.
type closing struct {
	*judge
	number int         // the hole's
	places map[int]int // of the locals that it may have
	within int         // how many holes stand around: what they are may make what stands in them vanish
	bad    verdict     // the verdict on what may not stand there; done: nothing stands there
}

func (j *judge) closing(number int, locals []int) *closing {
	c := &closing{judge: j, number: number, places: map[int]int{}, bad: done}
	for i, local := range locals {
		c.places[local] = i
	}
	return c
}

// made is a term with its locals made variables.
func (c *closing) made(t *api.Term) (*api.Term, verdict) {
	r := remake.Change{Budget: &c.Budget}
	r.Put = func(leaf *api.Term, binders int) *api.Term { return c.leaf(&r, leaf, binders) }
	made := r.Under(t, 0)
	return made, c.bad
}

// leaf is what stands in the place of a variable or a constant.
func (c *closing) leaf(r *remake.Change, leaf *api.Term, binders int) *api.Term {
	if local, ok := remake.LocalNumber(leaf); ok {
		if place, ok := c.places[local]; ok {
			return remake.Variable(len(c.places) - 1 - place + binders)
		}
		c.refuse()
		return leaf
	}
	other, ok := remake.HoleNumber(leaf)
	switch {
	case !ok:
		return nil
	case other == c.number:
		c.refuse()
		return leaf
	}
	return c.hole(r, leaf, binders)
}

// refuse notes that something stands there that may not.
func (c *closing) refuse() {
	if c.within > 0 {
		c.bad = min(c.bad, unclear)
	} else {
		c.bad = cannot
	}
}

// hole is another hole with its locals made variables.
func (c *closing) hole(r *remake.Change, t *api.Term, binders int) *api.Term {
	made := *t
	made.Args = slices.Clone(t.Args)
	c.within++
	for i := range made.Args {
		made.Args[i] = *r.Under(&made.Args[i], binders)
	}
	c.within--
	return &made
}
