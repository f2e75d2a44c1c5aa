package check

import (
	"slices"

	"provekernel/api"
	"provekernel/fault"
	"provekernel/tree"
)

// formed: a term that has been formed, and how many parts it has. The context's variables stand in it as locals.
type formed struct {
	term  api.Term
	parts int
}

// form is a term of that many parts. One of too many is not formed: what grows from step to step must end.
func form(t api.Term, parts int) formed {
	if parts > tree.MostParts {
		fault.Throw(api.FTired)
	}
	return formed{t, parts}
}

// rewriting makes a term anew, with something else in some places. What it does not change it shares.
type rewriting struct {
	put    func(leaf *api.Term, binders int) *formed // what stands in the place of a variable or a constant under that many binders; nil: it stays
	params []string                                  // parameters of levels ..
	levels []api.Level                               // .. and what stands in their place
	parts  int                                       // of what has been made so far
}

// made is a term made anew.
func (r *rewriting) made(t *api.Term) formed {
	made := *r.under(t, 0)
	return formed{made, r.parts}
}

// measured is a term as it is.
func measured(t *api.Term) formed {
	r := &rewriting{put: stays}
	return r.made(t)
}

// stays puts nothing in any place.
func stays(*api.Term, int) *formed { return nil }

// filled is a term with what fill tells in the place of its free variables, as they are outside of it. Nothing of that is
// moved: it has no free variables, or it is one.
func filled(t *api.Term, fill func(n int) formed) formed {
	r := &rewriting{put: func(leaf *api.Term, binders int) *formed {
		if leaf.Kind != api.Var || leaf.N < binders {
			return nil
		}
		put := fill(leaf.N - binders)
		if put.term.Kind == api.Var {
			put.term.N += binders
		}
		return &put
	}}
	return r.made(t)
}

// count counts parts.
func (r *rewriting) count(parts int) {
	r.parts += parts
	if r.parts > tree.MostParts {
		fault.Throw(api.FTired)
	}
}

// under makes what stands under that many of the term's binders: the very same, if nothing in it is another.
func (r *rewriting) under(t *api.Term, binders int) *api.Term {
	if t.Kind == api.Var || t.Kind == api.Const {
		if put := r.put(t, binders); put != nil {
			r.count(put.parts)
			return &put.term
		}
	}
	r.count(1)
	levels, otherLevels := changed(t.Levels, func(l *api.Level, _ int) *api.Level { return r.level(l) })
	args, otherArgs := changed(t.Args, func(arg *api.Term, i int) *api.Term { return r.under(arg, binders+tree.Binders(t, i)) })
	if !otherLevels && !otherArgs {
		return t
	}
	return &api.Term{Kind: t.Kind, N: t.N, Name: t.Name, Levels: levels, Args: args}
}

// level makes a level anew: the very same, if nothing in it is another.
func (r *rewriting) level(l *api.Level) *api.Level {
	if i := slices.Index(r.params, l.Name); l.Kind == api.Param && 0 <= i && i < len(r.levels) {
		plain := &rewriting{parts: r.parts}
		put := plain.level(&r.levels[i])
		r.parts = plain.parts
		return put
	}
	r.count(1)
	args, other := changed(l.Args, func(arg *api.Level, _ int) *api.Level { return r.level(arg) })
	if !other {
		return l
	}
	return &api.Level{Kind: l.Kind, Name: l.Name, Args: args}
}

// changed is a list with what change makes of its parts; false: all are the very same, and so is the list.
func changed[T any](parts []T, change func(part *T, i int) *T) ([]T, bool) {
	made, other := parts, false
	for i := range parts {
		put := change(&parts[i], i)
		if put == &parts[i] {
			continue
		}
		if !other {
			made, other = slices.Clone(parts), true
		}
		made[i] = *put
	}
	return made, other
}
