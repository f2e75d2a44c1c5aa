package induct

import (
	"slices"
	"strconv"

	"provekernel/api"
	"provekernel/fault"
	"provekernel/telescope"
	"provekernel/term"
	"provekernel/tree"
)

// recursor is that of a family that has been looked over. Its context: the parameters, the motive, the minors, the indices,
// the major.
func (f *family) recursor() recursor {
	params, rank := f.ranked()
	minors := f.minors()
	types := f.params.With(f.motive(rank)).With(minors...)
	for i, typ := range f.indices {
		types = append(types, telescope.Moved(typ, i, 1+len(minors), 0))
	}
	types = types.With(f.whole(1 + len(minors)))
	n := len(f.indices)
	result := term.Apply(tree.Variable(1+n+len(minors)), telescope.Variables(n, n+1))
	typ := types.Bound(api.Pi, result)
	if tree.Parts(&typ) > tree.MostParts {
		fault.Throw(api.FTired)
	}
	return recursor{params, term.Lift(typ, 0, 0)} // the declaration's own types stand in it
}

// ranked are the recursor's parameters, and the level of the sort in which the motive makes types.
func (f *family) ranked() ([]string, api.Level) {
	if !f.isLarge() {
		return slices.Clone(f.us), api.Level{}
	}
	r := fresh(f.us)
	return append([]string{r}, f.us...), api.Level{Kind: api.Param, Name: r}
}

// fresh is the first of r, r1, r2, .. that is none of the names.
func fresh(names []string) string {
	name := "r"
	for i := 1; slices.Contains(names, name); i++ {
		name = "r" + strconv.Itoa(i)
	}
	return name
}

// motive is its type, in the context of the parameters.
func (f *family) motive(rank api.Level) api.Term {
	return f.indices.With(f.whole(0)).Bound(api.Pi, api.Term{Kind: api.Sort, Levels: []api.Level{rank}})
}

// whole is the family applied to its parameters and to the innermost variables as its indices, with so many others between.
func (f *family) whole(between int) api.Term {
	n := len(f.indices)
	return term.Apply(f.constant(f.name), slices.Concat(f.variables(between+n), telescope.Variables(n-1, n)))
}

// minors are the types of the minors, each in the context of the parameters, the motive and those ahead.
func (f *family) minors() []api.Term {
	var minors []api.Term
	parts := 0
	for i, c := range f.ctors {
		minor := f.minor(c, i)
		parts += tree.Parts(&minor)
		if parts > tree.MostParts {
			fault.Throw(api.FTired)
		}
		minors = append(minors, minor)
	}
	return minors
}

// minor is the type of a constructor's minor, that has so many minors ahead of it.
func (f *family) minor(c ctor, ahead int) api.Term {
	var types telescope.Types // of the arguments, then of the hypotheses
	moved := func(t api.Term, own int) api.Term { return telescope.Moved(t, own, 1+ahead, len(types)-own) }
	motive := func() int { return len(types) + ahead }
	for i, typ := range c.args {
		types = append(types, moved(typ, i))
	}
	for i, typ := range f.recursives(c) {
		xs, js, _ := f.recursive(moved(typ, i), motive()+1)
		types = append(types, telescope.Hypothesis(api.Pi, xs, js, motive(), len(types)-1-i))
	}
	var as []api.Term
	for _, index := range c.indices {
		as = append(as, moved(index, len(c.args)))
	}
	made := slices.Concat(f.variables(motive()+1), telescope.Variables(len(types)-1, len(c.args)))
	as = append(as, term.Apply(f.constant(c.name), made))
	return types.Bound(api.Pi, term.Apply(tree.Variable(motive()), as))
}
