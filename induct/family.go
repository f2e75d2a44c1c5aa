package induct

import (
	"iter"
	"slices"

	"provekernel/api"
	"provekernel/check"
	"provekernel/fault"
	"provekernel/level"
	"provekernel/reduce"
	"provekernel/telescope"
	"provekernel/term"
	"provekernel/tree"
)

// longestName: how many bytes a family's name may have, so that its recursor's is a name.
const longestName = 36

// family: what has been read off a declaration.
type family struct {
	env     *reduce.Env // with the family as an axiom
	fuel    int
	name    string
	us      []string        // its levels' parameters
	params  telescope.Types // its parameters' types
	indices telescope.Types // its indices' types, in the context of the parameters
	level   api.Level       // of its sort
	proofs  bool            // that level is worth 0 always, not never
	ctors   []ctor
}

// ctor: a constructor, as far as it has been looked over.
type ctor struct {
	name    string
	args    telescope.Types // its arguments' types, in the context of the parameters
	indices []api.Term      // of its result
	fixed   bool            // each argument is a proof, or the result's indices tell it
}

// formOf reads off a family's type. FForm: it is of another form.
func formOf(d api.Decl) *family {
	types, last := telescope.Of(d.Type)
	if d.Arity < 0 || d.Arity > len(types) || !tree.Is(&last, api.Sort) || len(d.Name) > longestName {
		fault.Throw(api.FForm)
	}
	l := last.Levels[0]
	if !alwaysZero(l) && !neverZero(l) {
		fault.Throw(api.FForm)
	}
	return &family{name: d.Name, us: d.Params, params: types[:d.Arity], indices: types[d.Arity:], level: l, proofs: alwaysZero(l)}
}

// alwaysZero tells whether a level is worth 0, whatever its parameters are.
func alwaysZero(l api.Level) bool { return leq(l, api.Level{}) }

// neverZero tells whether a level is worth more than 0, whatever its parameters are.
func neverZero(l api.Level) bool {
	return leq(api.Level{Kind: api.Succ, Args: []api.Level{{}}}, l)
}

// leq tells whether a level is worth at most what another one is. FTired: they have too many parameters, as only the types of
// an environment that is not right can have.
func leq(a, b api.Level) bool {
	if !level.Comparable(a, b) {
		fault.Throw(api.FTired)
	}
	return level.Leq(a, b)
}

// ctor looks a constructor over.
func (f *family) ctor(c api.Ctor) ctor {
	sort, err := check.Sort(f.env, f.us, nil, c.Type, f.fuel)
	fault.Pass(err)
	types, result := telescope.Of(c.Type)
	f.lookParams(types)
	made := ctor{name: c.Name, args: types[len(f.params):]}
	indices, ok := f.applied(result, len(made.args))
	if !ok {
		fault.Throw(api.FForm)
	}
	made.indices = indices
	sorts := sortsOf(sort, len(types))[len(f.params):]
	f.lookArgs(made, sorts)
	made.fixed = isFixed(made, sorts)
	return made
}

// lookParams throws FForm, unless a constructor's types begin with those of the family's parameters.
func (f *family) lookParams(types telescope.Types) {
	if len(types) < len(f.params) {
		fault.Throw(api.FForm)
	}
	for i, param := range f.params {
		equal, err := f.env.Equal(types[i], param, f.fuel)
		fault.Pass(err)
		if !equal {
			fault.Throw(api.FForm)
		}
	}
}

// applied are the indices of the family, applied to the variables of its parameters, behind which so many others stand, and to
// indices in which it does not stand. false: the term is another one.
func (f *family) applied(t api.Term, behind int) ([]api.Term, bool) {
	head, as := term.Spine(t)
	itself := f.constant(f.name)
	if !tree.Same(&head, &itself) || len(as) != len(f.params)+len(f.indices) {
		return nil, false
	}
	params, indices := as[:len(f.params)], as[len(f.params):]
	for i, variable := range f.variables(behind) {
		if !tree.Same(&params[i], &variable) {
			return nil, false
		}
	}
	return indices, !slices.ContainsFunc(indices, f.standsIn)
}

// constant is the family, or a constructor, with the levels of the declaration.
func (f *family) constant(name string) api.Term {
	made := api.Term{Kind: api.Const, Name: name}
	for _, u := range f.us {
		made.Levels = append(made.Levels, api.Level{Kind: api.Param, Name: u})
	}
	return made
}

// variables are the parameters, behind which so many others stand.
func (f *family) variables(behind int) []api.Term {
	return telescope.Variables(behind+len(f.params)-1, len(f.params))
}

// standsIn tells whether the family stands in a term.
func (f *family) standsIn(t api.Term) bool { return term.Has(t, f.name) }

// sortsOf are the sorts of the types of n pi, of the sort that check finds of them all: of each it is the imax of the sort of
// its type and of that of what it stands ahead of.
func sortsOf(all api.Level, n int) []api.Level {
	var sorts []api.Level
	for range n {
		sorts = append(sorts, all.Args[0])
		all = all.Args[1]
	}
	return sorts
}

// lookArgs throws FPos, if the family stands in an argument where it must not; FLevel, if one is too great.
func (f *family) lookArgs(c ctor, sorts []api.Level) {
	for i, typ := range c.args {
		if f.standsIn(typ) && !f.isRecursive(typ, i) {
			fault.Throw(api.FPos)
		}
		if !f.proofs && !leq(sorts[i], f.level) {
			fault.Throw(api.FLevel)
		}
	}
}

// recursive takes (pi xs (I params js)) apart, a type with so many variables behind the parameters. false: it is of another form.
func (f *family) recursive(typ api.Term, behind int) (xs telescope.Types, js []api.Term, ok bool) {
	xs, result := telescope.Of(typ)
	if slices.ContainsFunc(xs, f.standsIn) {
		return nil, nil, false
	}
	js, ok = f.applied(result, behind+len(xs))
	return xs, js, ok
}

func (f *family) isRecursive(typ api.Term, behind int) bool {
	_, _, ok := f.recursive(typ, behind)
	return ok
}

// recursives are the recursive arguments of a constructor that has been looked over: their numbers and types.
func (f *family) recursives(c ctor) iter.Seq2[int, api.Term] {
	return func(yield func(number int, typ api.Term) bool) {
		for i, typ := range c.args {
			if f.standsIn(typ) && !yield(i, typ) {
				return
			}
		}
	}
}

// isFixed tells whether each argument of a constructor is a proof, or is itself one of the result's indices.
func isFixed(c ctor, sorts []api.Level) bool {
	for i, sort := range sorts {
		variable := tree.Variable(len(sorts) - 1 - i)
		if !alwaysZero(sort) && !slices.ContainsFunc(c.indices, func(index api.Term) bool { return tree.Same(&index, &variable) }) {
			return false
		}
	}
	return true
}

// isLarge tells whether the family's recursor makes things of any sort.
func (f *family) isLarge() bool {
	if !f.proofs || len(f.ctors) == 0 {
		return true
	}
	return len(f.ctors) == 1 && f.ctors[0].fixed
}
