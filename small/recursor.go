package small

import "slices"

// binder makes a value that binds a variable of a type: a product, or a function.
type binder func(domain *thunk, body func(v *thunk) value) value

func bindProduct(domain *thunk, body func(v *thunk) value) value {
	return &product{domain, func(v *thunk) *thunk { return later(func() value { return body(v) }) }}
}

func bindFunction(domain *thunk, body func(v *thunk) value) value { return &function{domain, body} }

// bindAll binds variables of types, each of which stands in the context of those ahead of it; inner makes what stands behind
// them.
func (l *looker) bindAll(bind binder, types []*node, e *env, inner func(e *env, vs []*thunk) value) value {
	var next func(e *env, vs []*thunk) value
	next = func(e *env, vs []*thunk) value {
		if len(vs) == len(types) {
			return inner(e, vs)
		}
		return bind(l.delay(types[len(vs)], e), func(v *thunk) value {
			return next(e.with(v), append(vs[:len(vs):len(vs)], v))
		})
	}
	return next(e, nil)
}

// newRecursor is the recursor of a family that has been looked over.
func (f *family) newRecursor() *constant {
	params := len(f.us)
	if f.large {
		params++
	}
	return &constant{params: params, typ: f.recursorType, needs: f.given() + len(f.indices) + 1, step: f.step}
}

// given: how many arguments a recursor has ahead of the indices: parameters, motive, minors.
func (f *family) given() int { return len(f.params) + 1 + len(f.ctors) }

// shape: a recursor's type while it is made, with what its first variables stand for.
type shape struct {
	*family
	l      *looker
	rank   *rank    // of the sort in which the motive makes types
	ranks  []*rank  // of the family
	inside *env     // in which the parameters stand
	stand  []*thunk // what these stand for
	motive *thunk
}

// recursorType is the type of the recursor with levels.
func (f *family) recursorType(l *looker, ranks []*rank) *thunk {
	s := shape{family: f, l: l, rank: l.number(0), ranks: ranks}
	if f.large {
		s.rank, s.ranks = ranks[0], ranks[1:]
	}
	outside := &env{levels: &leveling{f.us, s.ranks}}
	return found(l.bindAll(bindProduct, f.params, outside, s.behindParams))
}

// behindParams is what stands behind the parameters: the motive, then the minors.
func (s shape) behindParams(e *env, params []*thunk) value {
	s.inside, s.stand = e, params
	return bindProduct(s.motiveType(), func(motive *thunk) value {
		inner := s // another one each time that the product is asked what stands behind it
		inner.motive = motive
		return inner.behindMinors(0)
	})
}

func (s shape) motiveType() *thunk {
	return s.bindProducts(s.indices, s.inside, func(_ *env, js []*thunk) value {
		return bindProduct(s.whole(js), func(*thunk) value { return &universe{s.rank} })
	})
}

// bindProducts binds variables by products, once that is asked for.
func (s shape) bindProducts(types []*node, e *env, inner func(e *env, vs []*thunk) value) *thunk {
	return later(func() value { return s.l.bindAll(bindProduct, types, e, inner) })
}

// whole is the family with its parameters and indices.
func (s shape) whole(js []*thunk) *thunk { return s.made(s.constant, js) }

// made is the family or a constructor of it, with its parameters and more.
func (s shape) made(c *constant, more []*thunk) *thunk {
	return found(&stuck{head{constant: c, ranks: s.ranks}, slices.Concat(s.stand, more)})
}

// moved is the motive with indices and what has these.
func (s shape) moved(js []*thunk, major *thunk) value {
	return s.l.apply(s.l.force(s.motive), append(js[:len(js):len(js)], major))
}

// behindMinors is what stands behind the first n minors: the others, then the indices, then the major.
func (s shape) behindMinors(n int) value {
	if n < len(s.ctors) {
		return bindProduct(s.minorType(s.ctors[n]), func(*thunk) value { return s.behindMinors(n + 1) })
	}
	return s.l.bindAll(bindProduct, s.indices, s.inside, func(_ *env, js []*thunk) value {
		return bindProduct(s.whole(js), func(major *thunk) value { return s.moved(js, major) })
	})
}

func (s shape) minorType(c *ctor) *thunk {
	return s.bindProducts(c.args, s.inside, func(e *env, args []*thunk) value { return s.behindHypotheses(c, e, args, 0) })
}

// behindHypotheses is what stands in a minor's type behind the arguments and the first n hypotheses.
func (s shape) behindHypotheses(c *ctor, e *env, args []*thunk, n int) value {
	if n == len(c.again) {
		return s.moved(s.l.delayAll(c.indices, e), s.made(c.constant, args))
	}
	a := c.again[n]
	hypothesis := s.bindProducts(a.xs, e.out(len(args)-a.number), func(e *env, xs []*thunk) value {
		return s.moved(s.l.delayAll(a.js, e), s.l.with(args[a.number], xs))
	})
	return bindProduct(hypothesis, func(*thunk) value { return s.behindHypotheses(c, e, args, n+1) })
}

// with is a function with arguments, once that is asked for.
func (l *looker) with(f *thunk, args []*thunk) *thunk {
	if len(args) == 0 {
		return f
	}
	return later(func() value { return l.apply(l.force(f), args) })
}

// step is what the recursor becomes with arguments, the last of which, the major, is built by a constructor: that one's minor,
// with the constructor's own arguments and their hypotheses. false: the major is none.
func (f *family) step(l *looker, ranks []*rank, args []*thunk) (value, bool) {
	major, ok := l.force(args[len(args)-1]).(*stuck)
	if !ok || major.constant == nil || major.constant.family != f {
		return nil, false
	}
	number := major.constant.number
	if len(major.args) != len(f.params)+len(f.ctors[number].args) {
		return nil, false
	}
	l.step()
	minor := args[len(f.params)+1+number]
	return l.apply(l.force(minor), f.minorArgs(l, ranks, args[:f.given()], major)), true
}

// minorArgs are the arguments of a minor: those of the constructor that is the major's, then their hypotheses.
func (f *family) minorArgs(l *looker, ranks []*rank, given []*thunk, major *stuck) []*thunk {
	c := f.ctors[major.constant.number]
	own := major.args[len(f.params):]
	if len(c.again) == 0 {
		return own
	}
	again := &stuck{head{constant: f.recursor, ranks: ranks}, given}
	outside := &env{levels: &leveling{f.us, major.ranks}}
	e := outside.with(given[:len(f.params)]...).with(own...)
	all := slices.Clone(own)
	for _, a := range c.again {
		all = append(all, l.hypothesis(again, a, e.out(len(own)-a.number), own[a.number]))
	}
	return all
}

// hypothesis is that of a recursive argument, by the recursor with all that stands ahead of its indices.
func (l *looker) hypothesis(again *stuck, a recursive, e *env, arg *thunk) *thunk {
	return later(func() value {
		return l.bindAll(bindFunction, a.xs, e, func(e *env, xs []*thunk) value {
			return again.applied(l, append(l.delayAll(a.js, e), l.with(arg, xs)))
		})
	})
}
