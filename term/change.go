package term

import (
	"slices"

	"provekernel/api"
	"provekernel/level"
	"provekernel/tree"
)

// change makes a term anew: with what free makes of each free variable, what level makes of each level.
type change struct {
	free  func(n, binders int) api.Term // n: its number outside the term; binders: how many of the term's own it stands under
	level func(l api.Level) api.Level
}

// Lift makes free variables whose number is at least from go up by n.
func Lift(t api.Term, n, from int) api.Term {
	c := change{
		free: func(free, binders int) api.Term {
			if free >= from {
				free += n
			}
			return tree.Variable(free + binders)
		},
		level: copiedLevel,
	}
	return c.under(t, 0)
}

// Subst puts v in the place of the free variable 0; the other free ones go down by one.
func Subst(t, v api.Term) api.Term {
	c := change{
		free: func(free, binders int) api.Term {
			if free == 0 {
				return Lift(v, binders, 0)
			}
			return tree.Variable(free - 1 + binders)
		},
		level: copiedLevel,
	}
	return c.under(t, 0)
}

// Levels puts levels in the place of parameters, as level.Subst does, in all levels of a term.
func Levels(t api.Term, params []string, ls []api.Level) api.Term {
	c := change{
		free: func(free, binders int) api.Term { return tree.Variable(free + binders) },
		level: func(l api.Level) api.Level {
			return level.Subst(l, params, ls)
		},
	}
	return c.under(t, 0)
}

// copied shares no list with the term: an answer must not.
func copied(t api.Term) api.Term { return Lift(t, 0, 0) }

func copiedLevel(l api.Level) api.Level { return level.Subst(l, nil, nil) }

// under makes what stands under that many of the term's binders.
func (c change) under(t api.Term, binders int) api.Term {
	if t.Kind == api.Var {
		if t.N < binders {
			return tree.Variable(t.N)
		}
		return c.free(t.N-binders, binders)
	}
	made := api.Term{Kind: t.Kind, N: t.N, Name: t.Name}
	made.Levels = slices.Grow(made.Levels, len(t.Levels))
	made.Args = slices.Grow(made.Args, len(t.Args))
	for _, l := range t.Levels {
		made.Levels = append(made.Levels, c.level(l))
	}
	for i, arg := range t.Args {
		made.Args = append(made.Args, c.under(arg, binders+tree.Binders(&t, i)))
	}
	return made
}
