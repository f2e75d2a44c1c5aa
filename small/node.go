package small

import (
	"strconv"

	"provekernel/api"
)

// The kinds of nodes that are levels stand behind those of terms.
const (
	zeroLevel = api.Let + 1 + iota
	succLevel
	maxLevel
	imaxLevel
	paramLevel
)

// node is a term or a level, as it is written. The same one is made once: so it is known where it has been looked at already.
type node struct {
	kind   int
	n      int    // of a variable
	name   string // of a constant, of a level's parameter
	parts  []*node
	number int  // among the nodes that have been made
	free   int  // one more than the greatest number of its free variables; 0: it has none
	plain  bool // no parameter of a level stands in it
}

// reader makes nodes.
type reader struct {
	known map[string]*node
}

// term reads a term. The parts of a constant or a sort are its levels.
func (r *reader) term(t *api.Term) *node {
	var parts []*node
	for i := range t.Levels {
		parts = append(parts, r.level(&t.Levels[i]))
	}
	for i := range t.Args {
		parts = append(parts, r.term(&t.Args[i]))
	}
	return r.made(node{kind: t.Kind, n: t.N, name: t.Name, parts: parts})
}

func (r *reader) level(l *api.Level) *node {
	var parts []*node
	for i := range l.Args {
		parts = append(parts, r.level(&l.Args[i]))
	}
	return r.made(node{kind: zeroLevel + l.Kind, name: l.Name, parts: parts})
}

// made is the node that is the same as this one.
func (r *reader) made(n node) *node {
	key := strconv.AppendInt(nil, int64(n.kind), 10)
	key = strconv.AppendInt(append(key, ' '), int64(n.n), 10)
	key = append(append(key, ' '), n.name...)
	for _, part := range n.parts {
		key = strconv.AppendInt(append(key, ' '), int64(part.number), 10)
	}
	if known, ok := r.known[string(key)]; ok {
		return known
	}
	n.number = len(r.known)
	n.plain = n.kind != paramLevel
	if n.kind == api.Var {
		n.free = n.n + 1
	}
	for i, part := range n.parts {
		n.free = max(n.free, part.free-n.binders(i))
		n.plain = n.plain && part.plain
	}
	r.known[string(key)] = &n
	return &n
}

// binders tells how many variables a node binds in its part i.
func (n *node) binders(i int) int {
	switch n.kind {
	case api.Lam, api.Pi, api.Let:
		if i == len(n.parts)-1 {
			return 1
		}
	}
	return 0
}

// has tells whether a constant of that name stands in a term.
func (n *node) has(name string) bool {
	if n.kind == api.Const && n.name == name {
		return true
	}
	for _, part := range n.parts {
		if part.has(name) {
			return true
		}
	}
	return false
}

// products takes a type apart into the types of its pi, as it is written, and what stands behind them.
func (n *node) products() ([]*node, *node) {
	var types []*node
	for n.kind == api.Pi {
		types = append(types, n.parts[0])
		n = n.parts[1]
	}
	return types, n
}

// spine takes (..(f a1) .. an) apart, f no application.
func (n *node) spine() (*node, []*node) {
	count := 0
	for f := n; f.kind == api.App; f = f.parts[0] {
		count++
	}
	args := make([]*node, count)
	for ; n.kind == api.App; n = n.parts[0] {
		count--
		args[count] = n.parts[1]
	}
	return n, args
}
