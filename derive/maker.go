package derive

import (
	"provekernel/api"
	"provekernel/fault"
	"provekernel/tree"
)

// mostMade: how many terms and levels a derivation may be made of. Types in which many variables hang on one another, and
// lets one within another, can ask for as many as there are places in them, squared: some gigabytes.
const mostMade = 1 << 25

// mostWork: how many terms may be gone through in all, and how many steps of reduction taken.
const mostWork = 1 << 31

// maker makes terms and levels, and counts what it does: whatever a term asks for, it must end.
type maker struct {
	made      int
	worked    uint64
	variables []*node // those that have been made, by number
}

// tire throws the fault that says that there is too little fuel.
func tire() { fault.Throw(api.FTired) }

// fits throws FTired, if what is to be formed has too many parts: what grows from step to step must end.
func fits(parts int) {
	if parts > tree.MostParts {
		tire()
	}
}

// room counts terms and levels that are made.
func (m *maker) room(n int) {
	m.made += n
	if m.made > mostMade {
		tire()
	}
}

// work counts what is done.
func (m *maker) work(n int) {
	m.worked += uint64(n)
	if m.worked > mostWork {
		tire()
	}
}

// read is a term that another has made, without a list of its.
func (m *maker) read(t *api.Term) *node {
	m.work(1)
	switch {
	case tree.Is(t, api.Var):
		return m.variable(t.N)
	case tree.Is(t, api.Sort):
		return m.sort(m.readLevel(&t.Levels[0]))
	case tree.Is(t, api.Const):
		return m.constant(t.Name, m.readLevels(t.Levels)...)
	case tree.Is(t, api.App), tree.Is(t, api.Lam), tree.Is(t, api.Pi), tree.Is(t, api.Let):
		parts := make([]*node, len(t.Args))
		for i := range t.Args {
			parts[i] = m.read(&t.Args[i])
		}
		return m.compound(t.Kind, parts...)
	}
	fault.Throw(api.FText) // it is no term: nothing is said of it
	return nil
}

// readLevel is a level that another has made.
func (m *maker) readLevel(l *api.Level) *rank {
	m.work(1)
	return m.rank(l.Kind, l.Name, m.readLevels(l.Args)...)
}

func (m *maker) readLevels(ls []api.Level) []*rank {
	var made []*rank
	for i := range ls {
		made = append(made, m.readLevel(&ls[i]))
	}
	return made
}

// same tells whether two terms are the same, as they are written.
func (m *maker) same(a, b *node) bool {
	if a == b || a.mark != b.mark {
		return a == b
	}
	m.work(a.size)
	return tree.Same(&a.Term, &b.Term)
}
