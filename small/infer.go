package small

import (
	"slices"

	"provekernel/api"
)

// typing is the type of a term, for whatever its variables stand for: as a lam's type must have it, whose variable the next
// argument takes the place of.
type typing func(e *env) *thunk

// context: the variables that a term may name, from the innermost one on. env has for each what it stands for: a variable, or
// a let's value.
type context struct {
	outer *context
	typ   typing // of the innermost variable, in the context outside
	here  *thunk // that type, in this context
	env   *env
	count int
}

// start is the context without variables.
func (l *looker) start() *context { return &context{env: l.own} }

// withType is a context with one more variable, of a type that is a term.
func (l *looker) withType(c *context, typ *node) *context {
	return c.with(func(e *env) *thunk { return l.delay(typ, e) }, l.variable())
}

func (c *context) with(typ typing, stands *thunk) *context {
	return &context{c, typ, typ(c.env), c.env.with(stands), c.count + 1}
}

// find is the context whose innermost variable is that one. FVar: there is none.
func (c *context) find(n int) *context {
	if n >= c.count {
		throw(api.FVar)
	}
	for range n {
		c = c.outer
	}
	return c
}

// typeOf is the type of a term in a context. What has no free variables has one type in all of them.
func (l *looker) typeOf(t *node, c *context) *thunk {
	if t.free > 0 {
		return l.infer(t, c)(c.env)
	}
	known, ok := l.types[t]
	if !ok {
		known = l.inferred(t, c)(c.env)
		l.types[t] = known
	}
	return known
}

// infer is the type of a term, for whatever its variables stand for.
func (l *looker) infer(t *node, c *context) typing {
	if t.free == 0 {
		return always(l.typeOf(t, c))
	}
	return l.inferred(t, c)
}

// always is a type that hangs on no variable.
func always(typ *thunk) typing { return func(*env) *thunk { return typ } }

// inferred is infer by the term's kind.
func (l *looker) inferred(t *node, c *context) typing {
	l.enter()
	defer l.leave()
	switch t.kind {
	case api.Var:
		return variableType(t.n, c)
	case api.Sort:
		l.lookLevels(t)
		return always(found(&universe{above(l.rank(t.parts[0], l.own.levels))}))
	case api.Const:
		return always(l.constantType(t))
	case api.App:
		return l.application(t, c)
	case api.Lam:
		return l.lambda(t.parts[0], t.parts[1], c)
	case api.Pi:
		from := l.sort(t.parts[0], c)
		to := l.sort(t.parts[1], l.withType(c, t.parts[0]))
		return always(found(&universe{over(from, to)}))
	}
	return l.binding(t.parts[0], t.parts[1], t.parts[2], c)
}

func variableType(n int, c *context) typing {
	at := c.find(n)
	return func(e *env) *thunk {
		if e == c.env {
			return at.here
		}
		return at.typ(e.out(n + 1))
	}
}

// lookLevels throws FParam, if a parameter of a node's levels is none of the declaration's.
func (l *looker) lookLevels(t *node) {
	if t.kind == paramLevel && !slices.Contains(l.params, t.name) {
		throw(api.FParam)
	}
	for _, part := range t.parts {
		if !part.plain {
			l.lookLevels(part)
		}
	}
}

func (l *looker) constantType(t *node) *thunk {
	c := l.constants[t.name]
	if c == nil {
		throw(api.FName)
	}
	if len(t.parts) != c.params {
		throw(api.FLevels)
	}
	l.lookLevels(t)
	return c.typ(l, l.ranks(t.parts, l.own.levels))
}

// application is the type of a function, that is no application itself, with arguments.
func (l *looker) application(t *node, c *context) typing {
	f, args := t.spine()
	typ := l.infer(f, c)
	here := typ(c.env)
	for _, arg := range args {
		p := l.product(here)
		l.match(l.typeOf(arg, c), p.domain)
		here = p.codomain(l.delay(arg, c.env))
	}
	return func(e *env) *thunk {
		if e == c.env {
			return here
		}
		return later(func() value {
			there := typ(e)
			for _, arg := range args {
				there = l.product(there).codomain(l.delay(arg, e))
			}
			return l.force(there)
		})
	}
}

// lambda is the type of a lam.
func (l *looker) lambda(domain, body *node, c *context) typing {
	l.sort(domain, c)
	inner := l.infer(body, l.withType(c, domain))
	return func(e *env) *thunk {
		return found(&product{l.delay(domain, e), func(v *thunk) *thunk { return inner(e.with(v)) }})
	}
}

// binding is the type of a let.
func (l *looker) binding(domain, stands, body *node, c *context) typing {
	l.sort(domain, c)
	typ := l.infer(stands, c)
	l.match(typ(c.env), l.delay(domain, c.env))
	within := c.with(typ, l.delay(stands, c.env))
	inner := l.infer(body, within)
	return func(e *env) *thunk {
		if e == c.env {
			return inner(within.env)
		}
		return inner(e.with(l.delay(stands, e)))
	}
}

// sort is the level of the sort that a term's type comes to. FSort: it comes to none.
func (l *looker) sort(t *node, c *context) *rank {
	u, ok := l.form(l.typeOf(t, c)).(*universe)
	if !ok {
		throw(api.FSort)
	}
	return u.rank
}

// product is the one that a type comes to. FFun: it comes to none.
func (l *looker) product(typ *thunk) *product {
	p, ok := l.form(typ).(*product)
	if !ok {
		throw(api.FFun)
	}
	return p
}

// form asks what a type comes to.
func (l *looker) form(typ *thunk) value {
	if typ.made != nil {
		return typ.made
	}
	return ask(l, func() value { return l.force(typ) })
}

// match asks whether a type is equal to the one that there should be. FArg: it is not.
func (l *looker) match(typ, asked *thunk) {
	if !ask(l, func() bool { return l.equal(typ, asked) }) {
		throw(api.FArg)
	}
}
