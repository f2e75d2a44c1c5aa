// Package remake: terms made anew, with something else in some places. The variables of a context stand in them as locals, which
// are the same wherever they stand.
package remake

import (
	"slices"

	"provekernel/api"
	"provekernel/fault"
	"provekernel/tree"
)

// Budget: how much of looking at terms there may still be.
type Budget struct{ Left int }

// Spend throws FTired when too much has been looked at.
func (b *Budget) Spend(n int) {
	b.Left -= n
	if b.Left < 0 {
		fault.Throw(api.FTired)
	}
}

// Change makes a term anew, with something else in some places. What it does not change it shares.
type Change struct {
	*Budget
	Put   func(leaf *api.Term, binders int) *api.Term // in the place of a variable or a constant under that many binders; nil: it stays
	Level func(l *api.Level) *api.Level               // in the place of a level; nil: all stay
}

// Under makes what stands under that many of the term's binders: the very same, if nothing in it is another.
func (c *Change) Under(t *api.Term, binders int) *api.Term {
	c.Spend(1)
	if t.Kind == api.Var || t.Kind == api.Const {
		if put := c.Put(t, binders); put != nil {
			return put
		}
	}
	levels, otherLevels := t.Levels, false
	if c.Level != nil {
		levels, otherLevels = Parts(t.Levels, func(l *api.Level, _ int) *api.Level { return c.Level(l) })
	}
	args, otherArgs := Parts(t.Args, func(arg *api.Term, i int) *api.Term { return c.Under(arg, binders+tree.Binders(t, i)) })
	if !otherLevels && !otherArgs {
		return t
	}
	return &api.Term{Kind: t.Kind, N: t.N, Name: t.Name, Levels: levels, Args: args}
}

// Parts is a list with what change makes of its parts; false: all are the very same, and so is the list.
func Parts[T any](parts []T, change func(part *T, i int) *T) ([]T, bool) {
	made, other := parts, false
	for i := range parts {
		put := change(&parts[i], i)
		if put == &parts[i] {
			continue
		}
		if !other {
			made, other = slices.Clone(parts), true
		}
		made[i] = *put
	}
	return made, other
}

// Lifted is a term that stands under so many more binders.
func (b *Budget) Lifted(t *api.Term, n int) *api.Term {
	if n == 0 || t.Kind == api.Const && len(t.Args) == 0 {
		return t
	}
	c := Change{Budget: b, Put: func(leaf *api.Term, binders int) *api.Term {
		if leaf.Kind != api.Var || leaf.N < binders {
			return nil
		}
		return Variable(leaf.N + n)
	}}
	return c.Under(t, 0)
}

// Opened is a term whose outermost variables stand for others that have not been put in yet, the first one the outermost.
type Opened struct {
	Term *api.Term
	Args []*api.Term
}

// With is a part of the term under one more binder, whose variable stands for that.
func (o Opened) With(part *api.Term, arg *api.Term) Opened {
	return Opened{part, append(o.Args[:len(o.Args):len(o.Args)], arg)}
}

// Filled is a term with what its variables stand for put in.
func (b *Budget) Filled(t *api.Term, args []*api.Term) *api.Term {
	if len(args) == 0 {
		return t
	}
	c := Change{Budget: b, Put: func(leaf *api.Term, binders int) *api.Term {
		if leaf.Kind != api.Var || leaf.N < binders {
			return nil
		}
		if n := leaf.N - binders; n < len(args) {
			return b.Lifted(args[len(args)-1-n], binders)
		}
		return Variable(leaf.N - len(args))
	}}
	return c.Under(t, 0)
}

// Put is an opened term with what its variables stand for put in.
func (b *Budget) Put(o Opened) *api.Term { return b.Filled(o.Term, o.Args) }

// Replaced is a term with others, that have no variables, in the place of locals.
func (b *Budget) Replaced(t *api.Term, by map[int]*api.Term) *api.Term {
	c := Change{Budget: b, Put: func(leaf *api.Term, _ int) *api.Term {
		if number, ok := LocalNumber(leaf); ok {
			return by[number]
		}
		return nil
	}}
	return c.Under(t, 0)
}

// Bound is a term under binders of these locals, whose numbers go up, the last one the innermost.
func (b *Budget) Bound(t *api.Term, locals []int) *api.Term {
	if len(locals) == 0 {
		return t
	}
	c := Change{Budget: b, Put: func(leaf *api.Term, binders int) *api.Term {
		number, ok := LocalNumber(leaf)
		if !ok {
			return nil
		}
		place, ok := slices.BinarySearch(locals, number)
		if !ok {
			return nil
		}
		return Variable(len(locals) - 1 - place + binders)
	}}
	return c.Under(t, 0)
}

// HasVariable tells whether the variable of that number stands in a term.
func (b *Budget) HasVariable(t *api.Term, n int) bool {
	b.Spend(1)
	if t.Kind == api.Var {
		return t.N == n
	}
	for i := range t.Args {
		if b.HasVariable(&t.Args[i], n+tree.Binders(t, i)) {
			return true
		}
	}
	return false
}

// HasLocal tells whether one of the locals that fit stands in a term.
func (b *Budget) HasLocal(t *api.Term, fits func(number int) bool) bool {
	b.Spend(1)
	if number, ok := LocalNumber(t); ok {
		return fits(number)
	}
	for i := range t.Args {
		if b.HasLocal(&t.Args[i], fits) {
			return true
		}
	}
	return false
}
