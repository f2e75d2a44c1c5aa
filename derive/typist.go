package derive

import (
	"provekernel/api"
	"provekernel/fault"
	"provekernel/reduce"
	"provekernel/term"
	"provekernel/tree"
)

// typist finds the types that the steps of an outline derive, one by one. What it makes of the same things it makes once.
type typist struct {
	*outline
	env   *reduce.Env
	fuel  int
	types int32          // how many have been made
	lists []api.Term     // room for lists of theirs
	stack []api.Term     // room for what is made of one
	found []*typ         // by step
	terms map[int32]*typ // terms that stand in contexts, by their nodes' numbers
	sorts map[int32]*typ // types of sorts, by their nodes' numbers
	names map[int32]*typ // types of constants, likewise
	lifts map[place]*typ // types and by how much they are lifted
	fills map[place]*typ // codomains and the arguments' nodes
	pis   map[place]*typ // domains' nodes and codomains
	imaxs map[place]*typ // sorts, of which a product's is made
}

func newTypist(o *outline, e *reduce.Env, fuel int) *typist {
	o.inner, o.places = nil, nil // the outline is done: what it was made by can go
	return &typist{
		outline: o, env: e, fuel: fuel, found: make([]*typ, 0, len(o.steps)), terms: map[int32]*typ{}, sorts: map[int32]*typ{}, names: map[int32]*typ{},
		lifts: map[place]*typ{}, fills: map[place]*typ{}, pis: map[place]*typ{}, imaxs: map[place]*typ{},
	}
}

// typeOnce is what is known by a key, or else is made and known by it from now on.
func typeOnce[K comparable](known map[K]*typ, k K, create func() *typ) *typ {
	found, ok := known[k]
	if !ok {
		found = create()
		known[k] = found
	}
	return found
}

// typeOf is the type that a step derives, by the rule for its term's kind. Those that it stands on have been found.
func (y *typist) typeOf(s *step) *typ {
	t := y.nodes[s.term]
	switch t.Kind {
	case api.Var:
		return y.variableType(s.context, t.N)
	case api.Sort:
		return typeOnce(y.sorts, t.number, func() *typ {
			return y.sort(api.Level{Kind: api.Succ, Args: t.Levels}, t.size)
		})
	case api.Const:
		return typeOnce(y.names, t.number, func() *typ { return y.constantType(t) })
	case api.Pi:
		l, m := y.comesTo(y.found[s.prems[0]], api.Sort, api.FSort), y.comesTo(y.found[s.prems[1]], api.Sort, api.FSort)
		return typeOnce(y.imaxs, place{l.number, m.number}, func() *typ {
			return y.sort(api.Level{Kind: api.IMax, Args: []api.Level{l.Levels[0], m.Levels[0]}}, l.size+m.size-1)
		})
	case api.Lam:
		codomain := y.found[s.prems[1]]
		return typeOnce(y.pis, place{t.parts[0].number, codomain.number}, func() *typ { return y.product(t.parts[0], codomain) })
	case api.App:
		return y.applied(y.comesTo(y.found[s.prems[0]], api.Pi, api.FFun), t.parts[1])
	}
	return y.found[s.prems[2]]
}

// sort is the one of a level of that many parts.
func (y *typist) sort(l api.Level, parts int) *typ {
	return y.known(&typ{Term: api.Term{Kind: api.Sort, Levels: []api.Level{l}}, size: 1 + parts})
}

// variableType is the context's type of a variable, lifted.
func (y *typist) variableType(context int32, n int) *typ {
	for range n {
		context = y.contexts[context].outer
	}
	t := y.nodes[y.contexts[context].typ]
	whole := typeOnce(y.terms, t.number, func() *typ { return y.known(&typ{Term: t.Term, size: t.size, free: t.free}) })
	if whole.free == 0 {
		return whole
	}
	return typeOnce(y.lifts, place{whole.number, int32(n)}, func() *typ {
		return y.rewritten(&whole.Term, func(free, binders int) (api.Term, int, int) {
			return tree.Variable(free + n + 1 + binders), 1, free + n + 2
		})
	})
}

// constantType is a constant's type with its levels.
func (y *typist) constantType(t *node) *typ {
	params, whole, ok := y.env.Type(t.Name)
	if !ok {
		fault.Throw(api.FName)
	}
	made := y.measured(term.Levels(whole, params, t.Levels))
	y.take(made.size * termBytes)
	return made
}

// product is (pi A B).
func (y *typist) product(domain *node, codomain *typ) *typ {
	made := api.Term{Kind: api.Pi, Args: y.list(2)}
	made.Args[0], made.Args[1] = domain.Term, codomain.Term
	return y.known(&typ{Term: made, size: 1 + domain.size + codomain.size, free: max(domain.free, codomain.free-1)})
}

// applied is the codomain of a product with an argument put in.
func (y *typist) applied(pi *typ, arg *node) *typ {
	if pi.codomain == nil {
		pi.codomain = y.measured(pi.Args[1])
	}
	codomain := pi.codomain
	switch {
	case codomain.free == 0:
		return codomain
	case !codomain.zero:
		return y.lower(codomain)
	}
	return typeOnce(y.fills, place{codomain.number, arg.number}, func() *typ { return y.filled(codomain, arg) })
}

// lower is a type, in which the free variable 0 does not stand, with the others down by one. It is made once: a function's
// type is asked for it with each of its arguments.
func (y *typist) lower(t *typ) *typ {
	if t.lowered == nil {
		t.lowered = y.rewritten(&t.Term, func(free, binders int) (api.Term, int, int) { return tree.Variable(free - 1 + binders), 1, free })
	}
	return t.lowered
}

// filled is a type with an argument in the place of its free variable 0, and the others down by one.
func (y *typist) filled(t *typ, arg *node) *typ {
	lifted := map[int]*node{} // by how many binders it stands under
	return y.rewritten(&t.Term, func(free, binders int) (api.Term, int, int) {
		switch {
		case free > 0:
			return tree.Variable(free - 1 + binders), 1, free
		case arg.free == 0:
			return arg.Term, arg.size, 0
		case arg.Kind == api.Var:
			return tree.Variable(arg.N + binders), 1, arg.free
		}
		put := lifted[binders]
		if put == nil {
			up := change{maker: &y.maker, up: binders}
			put = up.under(arg, 0)
			lifted[binders] = put
		}
		return put.Term, put.size, arg.free
	})
}

// comesTo is the weak head normal form of a type, which must be of that kind. It is, unless the environment holds what is not
// right: then the fault is told that check tells of such a type.
func (y *typist) comesTo(t *typ, kind, code int) *typ {
	form := y.whnf(t)
	if !tree.Is(&form.Term, kind) {
		fault.Throw(code)
	}
	return form
}

// whnf is the weak head normal form of a type. Most have it already.
func (y *typist) whnf(t *typ) *typ {
	switch t.Kind {
	case api.Var, api.Sort, api.Lam, api.Pi:
		return t
	}
	if t.form == nil {
		form, steps, err := y.env.Whnf(t.Term, y.fuel)
		fault.Pass(err)
		y.work(steps)
		t.form = y.measured(form)
		y.take(t.form.size * termBytes)
	}
	return t.form
}
