package derive

import (
	"provekernel/api"
	"provekernel/tree"
)

// node is a term, and what is asked of it over and over. The term is never changed, so that terms can share their parts.
type node struct {
	api.Term
	parts   [3]*node // of Args
	level   *rank    // of a sort
	size    int      // how many parts it has: its nodes and those of its levels
	free    int      // one more than the greatest number of its free variables; 0: it has none
	mark    uint64   // that of all terms that are the same, and of hardly any other
	lowered *node    // it with its free variables down by one, once that has been asked for
}

// rank is a level, likewise.
type rank struct {
	api.Level
	size int
	mark uint64
}

// variable is the one of that number. It is made once.
func (m *maker) variable(n int) *node {
	if n < 0 || n > tree.MostParts {
		return m.newVariable(n)
	}
	for len(m.variables) <= n {
		m.variables = append(m.variables, m.newVariable(len(m.variables)))
	}
	return m.variables[n]
}

func (m *maker) newVariable(n int) *node {
	m.room(1)
	return &node{Term: tree.Variable(n), size: 1, free: max(n+1, 0), mark: mixed(api.Var, uint64(n))}
}

// sort is the one of a level.
func (m *maker) sort(l *rank) *node {
	m.room(1)
	fits(1 + l.size)
	return &node{Term: api.Term{Kind: api.Sort, Levels: []api.Level{l.Level}}, level: l, size: 1 + l.size, mark: mixed(api.Sort, l.mark)}
}

// constant is the one of a name, with levels.
func (m *maker) constant(name string, ls ...*rank) *node {
	m.room(1)
	made := &node{Term: api.Term{Kind: api.Const, Name: name}, size: 1, mark: mixed(api.Const, textMark(name))}
	for _, l := range ls {
		made.Levels = append(made.Levels, l.Level)
		made.size += l.size
		made.mark = mixed(made.mark, l.mark)
	}
	fits(made.size)
	return made
}

// compound is the term of that kind with these parts.
func (m *maker) compound(kind int, parts ...*node) *node {
	m.room(1)
	made := &node{Term: api.Term{Kind: kind, Args: make([]api.Term, len(parts))}, size: 1, mark: mixed(uint64(kind))}
	copy(made.parts[:], parts)
	for i, part := range parts {
		made.Args[i] = part.Term
		made.size += part.size
		made.free = max(made.free, part.free-tree.Binders(&made.Term, i))
		made.mark = mixed(made.mark, part.mark)
	}
	fits(made.size)
	return made
}

// rank is the level of that kind with these parts.
func (m *maker) rank(kind int, name string, parts ...*rank) *rank {
	m.room(1)
	made := &rank{Level: api.Level{Kind: kind, Name: name}, size: 1, mark: mixed(uint64(kind), textMark(name))}
	for _, part := range parts {
		made.Args = append(made.Args, part.Level)
		made.size += part.size
		made.mark = mixed(made.mark, part.mark)
	}
	fits(made.size)
	return made
}

// mixed is a mark that hangs on all of these, and on their order.
func mixed(marks ...uint64) uint64 {
	made := uint64(14695981039346656037)
	for _, mark := range marks {
		made = (made ^ mark) * 1099511628211
		made ^= made >> 32
	}
	return made
}

func textMark(text string) uint64 {
	mark := mixed(uint64(len(text)))
	for i := range len(text) {
		mark = mixed(mark, uint64(text[i]))
	}
	return mark
}
