package reduce

import (
	"slices"

	"provekernel/api"
	"provekernel/tree"
)

// leveling: what the parameters of levels stand for; nil: for themselves.
type leveling struct {
	params []string
	levels []api.Level
	parts  []int // how many nodes each of levels has
}

// with is a leveling of a declaration's parameters by levels that stand in this one.
func (g *leveling) with(params []string, ls []api.Level) *leveling {
	if len(params) == 0 {
		return nil
	}
	levels, parts := g.putAll(ls)
	return &leveling{params, levels, parts}
}

// putAll are levels with what their parameters stand for put in (what is not changed is shared), and how many nodes they have.
func (g *leveling) putAll(ls []api.Level) ([]api.Level, []int) {
	var made []api.Level
	var parts []int
	for _, l := range ls {
		n := g.partsOf(l)
		if n > tree.MostParts {
			tire()
		}
		put, _ := g.change(l)
		made, parts = append(made, put), append(parts, n)
	}
	return made, parts
}

// change is a level with what its parameters stand for put in, and whether it is another one by that.
func (g *leveling) change(l api.Level) (api.Level, bool) {
	if l.Kind == api.Param {
		if i := g.place(l.Name); i >= 0 {
			return g.levels[i], true
		}
		return l, false
	}
	made, changed := l, false
	for i, arg := range l.Args {
		put, other := g.change(arg)
		if !other {
			continue
		}
		if !changed {
			made.Args, changed = slices.Clone(l.Args), true
		}
		made.Args[i] = put
	}
	return made, changed
}

// partsOf tells how many nodes a level has when what its parameters stand for is put in.
func (g *leveling) partsOf(l api.Level) int {
	if l.Kind == api.Param {
		if i := g.place(l.Name); i >= 0 {
			return g.parts[i]
		}
		return 1
	}
	n := 1
	for _, arg := range l.Args {
		n += g.partsOf(arg)
	}
	return n
}

// place of a parameter among those that stand for another level; -1: it stands for itself.
func (g *leveling) place(name string) int {
	if g == nil {
		return -1
	}
	i := slices.Index(g.params, name)
	if i < 0 || i >= len(g.levels) || g.levels[i].Kind == api.Param && g.levels[i].Name == name {
		return -1
	}
	return i
}
