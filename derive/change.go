package derive

import "provekernel/tree"

// change makes a term anew: with what put makes of each variable that is free in it. What it does not change it shares.
type change struct {
	*maker
	put  func(n, binders int) *node // n: its number outside the term; binders: how many of the term's own it stands under
	size int                        // how many parts have been made so far
}

// lifted is a term with its free variables up by n.
func (m *maker) lifted(t *node, n int) *node {
	if n == 0 {
		return t
	}
	c := change{maker: m, put: func(free, binders int) *node { return m.variable(free + n + binders) }}
	return c.under(t, 0)
}

// filled is a term with v in the place of its free variable 0, and the other free ones down by one.
func (m *maker) filled(t, v *node) *node {
	if !m.stands(t, 0) {
		return m.lower(t)
	}
	c := change{maker: m, put: func(free, binders int) *node {
		if free == 0 {
			return m.lifted(v, binders)
		}
		return m.variable(free - 1 + binders)
	}}
	return c.under(t, 0)
}

// stands tells whether the free variable of that number stands in a term.
func (m *maker) stands(t *node, n int) bool {
	m.work(1)
	if t.free <= n+1 {
		return t.free == n+1
	}
	for i := range t.Args {
		if m.stands(t.parts[i], n+tree.Binders(&t.Term, i)) {
			return true
		}
	}
	return false
}

// lower is a term, in which the free variable 0 does not stand, with the others down by one. It is made once: a function's
// type is asked for it with each of its arguments.
func (m *maker) lower(t *node) *node {
	if t.lowered == nil {
		t.lowered = m.lifted(t, -1)
	}
	return t.lowered
}

// count counts parts of what is made: what has too many is given up before they are all there.
func (c *change) count(parts int) {
	c.size += parts
	fits(c.size)
}

// under makes what stands under that many of the term's binders.
func (c *change) under(t *node, binders int) *node {
	c.work(1)
	if t.free <= binders {
		c.count(t.size)
		return t
	}
	if len(t.Args) == 0 {
		put := c.put(t.N-binders, binders)
		c.count(put.size)
		return put
	}
	c.count(1)
	var parts [3]*node
	for i := range t.Args {
		parts[i] = c.under(t.parts[i], binders+tree.Binders(&t.Term, i))
	}
	return c.compound(t.Kind, parts[:len(t.Args)]...)
}
