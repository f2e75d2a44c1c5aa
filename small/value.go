package small

import (
	"slices"

	"provekernel/api"
)

// value of a term: what its head comes to, where no step can be done any more. It is a universe, a product, a function or stuck.
type value interface {
	// applied is what comes of the value with arguments, of which there is one at least.
	applied(l *looker, args []*thunk) value
}

// universe is a sort.
type universe struct{ rank *rank }

// product is a pi. What it binds is a function of the language.
type product struct {
	domain   *thunk
	codomain func(v *thunk) *thunk
}

// function is a lam, likewise.
type function struct {
	domain *thunk
	body   func(v *thunk) value
}

// stuck is a variable or a constant with arguments.
type stuck struct {
	head
	args []*thunk
}

// head of what is stuck: a constant, or a variable, which has a number that no other one has.
type head struct {
	constant *constant
	ranks    []*rank // of the constant
	variable int
}

// thunk is a value that is found once it is asked for, and kept then.
type thunk struct {
	made   value
	find   func() value
	closed bool // no variable stands in it
}

// env: what variables stand for, the innermost one first, and the parameters of levels.
type env struct {
	outer  *env
	stands *thunk
	levels *leveling
}

// with is this one with one more variable, or with several, the outermost first.
func (e *env) with(vs ...*thunk) *env {
	for _, v := range vs {
		e = &env{e, v, e.levels}
	}
	return e
}

// out is this one without its n innermost variables.
func (e *env) out(n int) *env {
	for range n {
		e = e.outer
	}
	return e
}

// found is a value that is there already.
func found(v value) *thunk { return &thunk{made: v} }

// later is a value that is found once it is asked for.
func later(find func() value) *thunk { return &thunk{find: find} }

// force finds a value.
func (l *looker) force(t *thunk) value {
	if t.made == nil {
		find := t.find
		t.find = nil
		if find == nil {
			throw(api.FTired) // it asks for itself, as nothing does that is right
		}
		l.enter()
		t.made = find()
		l.leave()
	}
	return t.made
}

// delay is the value of a term, once it is asked for. One that hangs on nothing is found once for the whole declaration.
func (l *looker) delay(t *node, e *env) *thunk {
	if t.kind == api.Var {
		return e.out(t.n).stands
	}
	if t.free > 0 || !t.plain {
		made := later(func() value { return l.eval(t, e) })
		made.closed = t.free == 0
		return made
	}
	known, ok := l.values[t]
	if !ok {
		known = later(func() value { return l.eval(t, l.own) })
		known.closed = true
		l.values[t] = known
	}
	return known
}

func (l *looker) delayAll(ts []*node, e *env) []*thunk {
	made := make([]*thunk, len(ts))
	for i, t := range ts {
		made[i] = l.delay(t, e)
	}
	return made
}

// eval is the value of a term.
func (l *looker) eval(t *node, e *env) value {
	switch t.kind {
	case api.Sort:
		return &universe{l.rank(t.parts[0], e.levels)}
	case api.Const:
		return l.constant(t, e)
	case api.App:
		return l.evalSpine(t, e)
	case api.Lam:
		return l.evalFunction(t.parts[0], t.parts[1], e)
	case api.Pi:
		return l.evalProduct(t.parts[0], t.parts[1], e)
	case api.Let:
		return l.evalLet(t, e)
	}
	return l.force(l.delay(t, e))
}

func (l *looker) evalSpine(t *node, e *env) value {
	f, args := t.spine()
	return l.force(l.delay(f, e)).applied(l, l.delayAll(args, e))
}

func (l *looker) evalFunction(domain, body *node, e *env) value {
	return &function{l.delay(domain, e), func(v *thunk) value { return l.eval(body, e.with(v)) }}
}

func (l *looker) evalProduct(domain, body *node, e *env) value {
	return &product{l.delay(domain, e), func(v *thunk) *thunk { return l.delay(body, e.with(v)) }}
}

// evalLet goes through lets within lets at once: they may lie deep.
func (l *looker) evalLet(t *node, e *env) value {
	for t.kind == api.Let {
		l.step()
		t, e = t.parts[2], e.with(l.delay(t.parts[1], e))
	}
	return l.eval(t, e)
}

// constant is the value of a constant with its levels.
func (l *looker) constant(t *node, e *env) value {
	c := l.constants[t.name]
	ranks := l.ranks(t.parts, e.levels)
	if c.needs == 0 {
		made, _ := c.step(l, ranks, nil)
		return made
	}
	return &stuck{head: head{constant: c, ranks: ranks}}
}

// apply is a value with arguments.
func (l *looker) apply(v value, args []*thunk) value {
	if len(args) == 0 {
		return v
	}
	return v.applied(l, args)
}

func (f *function) applied(l *looker, args []*thunk) value {
	l.step()
	l.enter()
	made := f.body(args[0])
	l.leave()
	return l.apply(made, args[1:])
}

// A constant that takes a step does so with the last of the arguments that it needs. If it can't then it never can.
func (s *stuck) applied(l *looker, args []*thunk) value {
	all := slices.Concat(s.args, args)
	c := s.constant
	if c != nil && c.step != nil && len(s.args) < c.needs && c.needs <= len(all) {
		if made, ok := c.step(l, s.ranks, all[:c.needs]); ok {
			return l.apply(made, all[c.needs:])
		}
	}
	return &stuck{s.head, all}
}

func (u *universe) applied(*looker, []*thunk) value { return noFunction() }

func (p *product) applied(*looker, []*thunk) value { return noFunction() }

// noFunction throws: what is right applies functions alone.
func noFunction() value {
	throw(api.FFun)
	return nil
}
