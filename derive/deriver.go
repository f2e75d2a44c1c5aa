package derive

import (
	"provekernel/api"
	"provekernel/fault"
	"provekernel/reduce"
	"provekernel/term"
)

// mostSteps: how many steps a derivation may have. A let's value has steps of its own in each context in which it stands:
// lets within lets, under binders, can ask for more than could ever be told.
const mostSteps = 1 << 22

// mostPlain: how many steps a derivation may have that has one for each place of the term. A longer one does not derive again
// what it has derived: lets within lets would take time without end.
const mostPlain = 100

// place: a term in a context, by that one's number and the term's mark.
type place struct {
	context int
	mark    uint64
}

// inference: a rule, the type that it derives, and the steps that it does so from.
type inference struct {
	rule  int
	typ   *node
	prems []int
}

// step of a derivation.
type step struct {
	context *context
	term    *node
	inference
}

// pair: a term, and what belongs to it.
type pair struct{ term, found *node }

// pairs, by the term's mark.
type pairs map[uint64]pair

// deriver derives the types of terms that check has found right, step by step.
//
// So it need not ask again whether types are equal, or come to a sort. But it takes a let as the rule's words do: check finds
// the type of its value once, a derivation has steps for it wherever it is put in.
type deriver struct {
	maker
	env      *reduce.Env
	fuel     int
	contexts []*context    // by number; the first is the one without variables
	inner    map[place]int // contexts, by the one outside and the innermost variable's type
	steps    []step
	places   map[place]int // by which step a term has been derived
	consts   pairs         // constants and their types
	forms    pairs         // types and their weak head normal forms
}

func newDeriver(e *reduce.Env, fuel int) *deriver {
	return &deriver{env: e, fuel: fuel, contexts: []*context{{}}, inner: map[place]int{}, places: map[place]int{}, consts: pairs{}, forms: pairs{}}
}

// derive adds the steps that derive a term's type in a context, and answers the number of the last one.
func (d *deriver) derive(c *context, t *node) int {
	at := place{c.number, t.mark}
	if known, ok := d.places[at]; ok && len(d.steps) >= mostPlain && d.same(d.steps[known].term, t) {
		return known
	}
	found := d.infer(c, t)
	number := len(d.steps)
	if number >= mostSteps {
		tire()
	}
	d.steps = append(d.steps, step{c, t, found})
	d.places[at] = number
	return number
}

// typ is the type that a step derives.
func (d *deriver) typ(number int) *node { return d.steps[number].typ }

// infer finds the type of a term by the rule for its kind, and adds the steps that the rule stands on.
func (d *deriver) infer(c *context, t *node) inference {
	switch t.Kind {
	case api.Var:
		return by(api.RVar, d.variableType(c, t))
	case api.Sort:
		return by(api.RSort, d.sort(d.rank(api.Succ, "", t.level)))
	case api.Const:
		return by(api.RConst, d.constantType(t))
	case api.Pi:
		return d.product(c, t)
	case api.Lam:
		return d.function(c, t)
	case api.App:
		return d.application(c, t)
	}
	return d.binding(c, t)
}

func by(rule int, typ *node, prems ...int) inference { return inference{rule, typ, prems} }

// variableType is the context's type of a variable, lifted.
func (d *deriver) variableType(c *context, t *node) *node {
	at := c.find(t.N)
	if at == nil {
		fault.Throw(api.FVar)
	}
	return d.lifted(at.typ, t.N+1)
}

// constantType is a constant's type with its levels.
func (d *deriver) constantType(t *node) *node {
	return d.once(d.consts, t, func() api.Term {
		params, typ, ok := d.env.Type(t.Name)
		if !ok {
			fault.Throw(api.FName)
		}
		return term.Levels(typ, params, t.Levels)
	})
}

func (d *deriver) product(c *context, t *node) inference {
	first := d.derive(c, t.parts[0])
	last := d.derive(d.with(c, t.parts[0]), t.parts[1])
	l := d.comesTo(d.typ(first), api.Sort, api.FSort).level
	m := d.comesTo(d.typ(last), api.Sort, api.FSort).level
	return by(api.RPi, d.sort(d.rank(api.IMax, "", l, m)), first, last)
}

func (d *deriver) function(c *context, t *node) inference {
	domain := d.derive(c, t.parts[0])
	body := d.derive(d.with(c, t.parts[0]), t.parts[1])
	return by(api.RLam, d.compound(api.Pi, t.parts[0], d.typ(body)), domain, body)
}

func (d *deriver) application(c *context, t *node) inference {
	f := d.derive(c, t.parts[0])
	a := d.derive(c, t.parts[1])
	pi := d.comesTo(d.typ(f), api.Pi, api.FFun)
	return by(api.RApp, d.filled(pi.parts[1], t.parts[1]), f, a)
}

func (d *deriver) binding(c *context, t *node) inference {
	domain := d.derive(c, t.parts[0])
	value := d.derive(c, t.parts[1])
	body := d.derive(c, d.filled(t.parts[2], t.parts[1]))
	return by(api.RLet, d.typ(body), domain, value, body)
}

// comesTo is the weak head normal form of a type, which must be of that kind. It is, unless the environment holds what is not
// right: then the fault is told that check tells of such a type.
func (d *deriver) comesTo(typ *node, kind, code int) *node {
	form := d.whnf(typ)
	if form.Kind != kind {
		fault.Throw(code)
	}
	return form
}

// whnf is the weak head normal form of a type. Most have it already.
func (d *deriver) whnf(t *node) *node {
	switch t.Kind {
	case api.Var, api.Sort, api.Lam, api.Pi:
		return t
	}
	return d.once(d.forms, t, func() api.Term {
		form, steps, err := d.env.Whnf(t.Term, d.fuel)
		fault.Pass(err)
		d.work(steps)
		return form
	})
}

// once is what belongs to a term, which find tells: it is asked once, since it may take long.
func (d *deriver) once(known pairs, t *node, find func() api.Term) *node {
	if at, ok := known[t.mark]; ok && d.same(at.term, t) {
		return at.found
	}
	found := find()
	known[t.mark] = pair{t, d.read(&found)}
	return known[t.mark].found
}
