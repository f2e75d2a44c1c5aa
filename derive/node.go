package derive

import (
	"strconv"

	"provekernel/api"
	"provekernel/fault"
	"provekernel/level"
	"provekernel/tree"
)

// node is a term that is derived, or a part of one. The same one is made once: so terms share their parts, and are known by
// their numbers. It is never changed.
type node struct {
	api.Term
	parts  [3]*node // of Args
	number int32
	size   int   // how many parts it has: its nodes and those of its levels
	free   int   // one more than the greatest number of its free variables; 0: it has none
	filled *node // of a let: its body with its value, once that has been asked for
}

// key of a term that has parts: its kind, their numbers.
type key struct {
	kind  int
	parts [3]int32
}

// maker makes nodes.
type maker struct {
	budget
	nodes     []*node          // by number
	variables map[int]int32    // by the variable's number
	leaves    map[string]int32 // sorts and constants, by their text
	compounds map[key]int32
}

func newMaker(bytes int) maker {
	return maker{budget: budget{bytes: bytes}, variables: map[int]int32{}, leaves: map[string]int32{}, compounds: map[key]int32{}}
}

// add is a new node.
func (m *maker) add(n *node) int32 {
	fits(n.size)
	m.take(nodeBytes + termBytes*len(n.Args))
	n.number = int32(len(m.nodes))
	m.nodes = append(m.nodes, n)
	return n.number
}

// once is the node that is known by a key, or else is made and known by it from now on.
func once[K comparable](m *maker, known map[K]int32, k K, create func() *node) *node {
	number, ok := known[k]
	if !ok {
		number = m.add(create())
		known[k] = number
	}
	return m.nodes[number]
}

// variable is the one of that number.
func (m *maker) variable(n int) *node {
	return once(m, m.variables, n, func() *node { return &node{Term: tree.Variable(n), size: 1, free: max(n+1, 0)} })
}

// leaf is a sort or a constant. Its levels are copied: what is handed over is not kept.
func (m *maker) leaf(t *api.Term) *node {
	text := []byte(strconv.Itoa(t.Kind) + t.Name)
	for _, l := range t.Levels {
		text = append(append(text, ' '), level.Print(l)...)
	}
	return once(m, m.leaves, string(text), func() *node {
		made := &node{Term: api.Term{Kind: t.Kind, Name: t.Name}, size: tree.Parts(t)}
		for _, l := range t.Levels {
			made.Levels = append(made.Levels, level.Subst(l, nil, nil))
		}
		return made
	})
}

// compound is the term of that kind with these parts.
func (m *maker) compound(kind int, parts ...*node) *node {
	k := key{kind: kind}
	for i, part := range parts {
		k.parts[i] = part.number
	}
	return once(m, m.compounds, k, func() *node {
		made := &node{Term: api.Term{Kind: kind, Args: make([]api.Term, len(parts))}, size: 1}
		copy(made.parts[:], parts)
		for i, part := range parts {
			made.Args[i] = part.Term
			made.size += part.size
			made.free = max(made.free, part.free-tree.Binders(&made.Term, i))
		}
		return made
	})
}

// read is a term that is handed over, without a list of its.
func (m *maker) read(t *api.Term) *node {
	m.work(1)
	switch {
	case tree.Is(t, api.Var):
		return m.variable(t.N)
	case tree.Is(t, api.Sort), tree.Is(t, api.Const):
		return m.leaf(t)
	case tree.Is(t, api.App), tree.Is(t, api.Lam), tree.Is(t, api.Pi), tree.Is(t, api.Let):
		var parts [3]*node
		for i := range t.Args {
			parts[i] = m.read(&t.Args[i])
		}
		return m.compound(t.Kind, parts[:len(t.Args)]...)
	}
	fault.Throw(api.FText) // it is no term: nothing is said of it
	return nil
}

// unfolded is the body of a let with its value put in. It hangs on nothing else: it is made once for all contexts.
func (m *maker) unfolded(let *node) *node {
	if let.filled == nil {
		c := change{maker: m, value: let.parts[1]}
		let.filled = c.under(let.parts[2], 0)
	}
	return let.filled
}

// change makes a term anew, with a value in the place of its free variable 0, and the other free ones down by one; without a
// value: with its free ones up by some.
type change struct {
	*maker
	value *node
	up    int
	size  int // how many parts have been made so far
}

// count counts parts of what is made: what has too many is given up before they are all there.
func (c *change) count(parts int) {
	c.size += parts
	fits(c.size)
}

// under makes what stands under that many of the term's binders.
func (c *change) under(t *node, binders int) *node {
	c.work(1)
	if t.free <= binders {
		c.count(t.size)
		return t
	}
	if t.Kind == api.Var {
		put := c.put(t.N-binders, binders)
		c.count(put.size)
		return put
	}
	c.count(1)
	var parts [3]*node
	for i := range t.Args {
		parts[i] = c.under(t.parts[i], binders+tree.Binders(&t.Term, i))
	}
	return c.compound(t.Kind, parts[:len(t.Args)]...)
}

// put is what stands in the place of a variable, that has that number outside the term.
func (c *change) put(n, binders int) *node {
	switch {
	case c.value == nil:
		return c.variable(n + c.up + binders)
	case n > 0:
		return c.variable(n - 1 + binders)
	}
	lifting := change{maker: c.maker, up: binders}
	return lifting.under(c.value, 0)
}
