package small

import (
	"slices"

	"provekernel/api"
)

// context: the variables that a term may name, from the innermost one on. env has for each what it stands for: a variable of its
// own, that nothing outside knows, or a let's value. So a type needs no change where more variables come to stand behind it.
type context struct {
	outer *context
	typ   *thunk // of the innermost variable
	env   *env
	count int
}

// start is the context without variables.
func (l *looker) start() *context { return &context{env: l.own} }

func (c *context) with(typ, stands *thunk) *context {
	return &context{c, typ, c.env.with(stands), c.count + 1}
}

// find is the context whose innermost variable is that one. FVar: there is none.
func (c *context) find(n int) *context {
	if n >= c.count {
		throw(api.FVar)
	}
	for range n {
		c = c.outer
	}
	return c
}

// typeOf is the type of a term in a context. What has no free variables has one type in all of them: it is found once.
func (l *looker) typeOf(t *node, c *context) *thunk {
	if t.free > 0 {
		return l.infer(t, c)
	}
	known, ok := l.types[t]
	if !ok {
		known = l.infer(t, c)
		known.closed = true
		l.types[t] = known
	}
	return known
}

// infer is typeOf by the term's kind.
func (l *looker) infer(t *node, c *context) *thunk {
	l.enter()
	defer l.leave()
	switch t.kind {
	case api.Var:
		return c.find(t.n).typ
	case api.Sort:
		l.lookLevels(t)
		return found(&universe{above(l.rank(t.parts[0], l.own.levels))})
	case api.Const:
		return l.constantType(t)
	case api.App:
		return l.application(t, c)
	case api.Lam:
		return l.lambda(t, c)
	case api.Pi:
		from := l.sort(t.parts[0], c)
		to := l.sort(t.parts[1], l.bound(t.parts[0], c).inside)
		return found(&universe{over(from, to)})
	}
	return l.binding(t.parts[0], t.parts[1], t.parts[2], c)
}

// lookLevels throws FParam, if a parameter of a node's levels is none of the declaration's.
func (l *looker) lookLevels(t *node) {
	if t.kind == paramLevel && !slices.Contains(l.params, t.name) {
		throw(api.FParam)
	}
	for _, part := range t.parts {
		if !part.plain {
			l.lookLevels(part)
		}
	}
}

func (l *looker) constantType(t *node) *thunk {
	c := l.constants[t.name]
	if c == nil {
		throw(api.FName)
	}
	if len(t.parts) != c.params {
		throw(api.FLevels)
	}
	l.lookLevels(t)
	return c.typ(l, l.ranks(t.parts, l.own.levels))
}

// application is the type of a function, that is no application itself, with arguments.
func (l *looker) application(t *node, c *context) *thunk {
	f, args := t.spine()
	typ := l.typeOf(f, c)
	for _, arg := range args {
		p := l.product(typ)
		l.match(l.typeOf(arg, c), p.domain)
		typ = p.codomain(l.delay(arg, c.env))
	}
	return typ
}

// bound: a variable that has been bound: its type, the number that it has, and the context with it.
type bound struct {
	domain   *thunk
	variable int
	inside   *context
}

// bound binds a variable of a type that has a sort.
func (l *looker) bound(typ *node, c *context) bound {
	domain, variable := l.delay(typ, c.env), l.variable()
	return bound{domain, l.variables, c.with(domain, variable)}
}

// lambda is the type of a lam, and of those that it begins with: all are bound at once.
func (l *looker) lambda(t *node, c *context) *thunk {
	var bs []bound
	for len(bs) == 0 || t.kind == api.Lam && t.free > 0 {
		l.sort(t.parts[0], c)
		bs = append(bs, l.bound(t.parts[0], c))
		t, c = t.parts[1], bs[len(bs)-1].inside
	}
	return l.products(bs, l.typeOf(t, c), nil)
}

// products is (pi d1 .. (pi dn result)), of variables and a type in which they stand, with others in the place of some.
func (l *looker) products(bs []bound, result *thunk, s *exchange) *thunk {
	if len(bs) == 0 {
		return l.exchanged(result, s)
	}
	b := bs[0]
	return found(&product{l.exchanged(b.domain, s), func(v *thunk) *thunk {
		return l.products(bs[1:], result, &exchange{s, b.variable, v})
	}})
}

// binding is the type of a let.
func (l *looker) binding(domain, stands, body *node, c *context) *thunk {
	l.sort(domain, c)
	typ := l.typeOf(stands, c)
	l.match(typ, l.delay(domain, c.env))
	return l.typeOf(body, c.with(typ, l.delay(stands, c.env)))
}

// sort is the level of the sort that a term's type comes to. FSort: it comes to none.
func (l *looker) sort(t *node, c *context) *rank {
	u, ok := l.form(l.typeOf(t, c)).(*universe)
	if !ok {
		throw(api.FSort)
	}
	return u.rank
}

// product is the one that a type comes to. FFun: it comes to none.
func (l *looker) product(typ *thunk) *product {
	p, ok := l.form(typ).(*product)
	if !ok {
		throw(api.FFun)
	}
	return p
}

// form asks what a type comes to.
func (l *looker) form(typ *thunk) value {
	if typ.made != nil {
		return typ.made
	}
	l.ask()
	return l.force(typ)
}

// match asks whether a type is equal to the one that there should be. FArg: it is not.
func (l *looker) match(typ, asked *thunk) {
	l.ask()
	if !l.equal(typ, asked) {
		throw(api.FArg)
	}
}
