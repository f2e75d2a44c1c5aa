package small

import (
	"slices"

	"provekernel/api"
)

// longestName: how many bytes a family's name may have, so that its recursor's is a name.
const longestName = 36

// family: what has been read off a declaration.
type family struct {
	name    string
	itself  *node    // with the levels of the declaration
	us      []string // its levels' parameters
	params  []*node  // its parameters' types
	indices []*node  // its indices' types, behind the parameters
	level   *rank    // of its sort
	proofs  bool     // that level is worth 0 always, not never
	ctors   []*ctor
	large   bool

	constant, recursor *constant
}

// ctor: a constructor.
type ctor struct {
	args     []*node // its arguments' types, behind the parameters
	indices  []*node // of its result
	again    []recursive
	fixed    bool // each argument is a proof, or the result's indices tell it
	constant *constant
}

// recursive: an argument of a constructor that is of its family: (pi xs (I params js)).
type recursive struct {
	number int // among the constructor's arguments
	xs, js []*node
}

func recursorName(family string) string { return family + ".rec" }

// addFamily looks a family over whose type has a sort, and adds its constants.
func (w *world) addFamily(l *looker, d api.Decl, typ *node) {
	f := w.formOf(l, d, typ)
	w.constants[d.Name] = f.constant
	for i, c := range d.Ctors {
		ctorType := w.term(&c.Type)
		made := l.ctor(f, ctorType)
		made.constant = declared(d.Params, ctorType)
		made.constant.family, made.constant.number = f, i
		f.ctors = append(f.ctors, made)
	}
	for i, c := range d.Ctors {
		w.constants[c.Name] = f.ctors[i].constant
	}
	f.large = !f.proofs || len(f.ctors) == 0 || len(f.ctors) == 1 && f.ctors[0].fixed
	f.recursor = f.newRecursor()
	w.constants[recursorName(d.Name)] = f.recursor
}

// formOf reads off a family's type. FForm: it is of another form.
func (w *world) formOf(l *looker, d api.Decl, typ *node) *family {
	types, last := typ.products()
	if d.Arity > len(types) || last.kind != api.Sort || len(d.Name) > longestName {
		throw(api.FForm)
	}
	rank := l.rank(last.parts[0], l.own.levels)
	proofs := rank.leq(l.number(0))
	if !proofs && !l.number(1).leq(rank) {
		throw(api.FForm)
	}
	itself := api.Term{Kind: api.Const, Name: d.Name}
	for _, u := range d.Params {
		itself.Levels = append(itself.Levels, api.Level{Kind: api.Param, Name: u})
	}
	return &family{
		name: d.Name, itself: w.term(&itself), us: d.Params, params: types[:d.Arity], indices: types[d.Arity:],
		level: rank, proofs: proofs, constant: declared(d.Params, typ),
	}
}

// ctor looks the type of a constructor over.
func (l *looker) ctor(f *family, typ *node) *ctor {
	types, result := typ.products()
	c := l.start()
	var sorts []*rank
	envs := []*env{c.env}
	for _, t := range types {
		sorts = append(sorts, l.sort(t, c))
		c = l.bound(t, c).inside
		envs = append(envs, c.env)
	}
	l.sort(result, c)
	if len(types) < len(f.params) {
		throw(api.FForm)
	}
	for i, param := range f.params {
		l.ask()
		if !l.equal(l.delay(types[i], envs[i]), l.delay(param, envs[i])) {
			throw(api.FForm)
		}
	}
	made := &ctor{args: types[len(f.params):]}
	indices, ok := f.applied(result, len(made.args))
	if !ok {
		throw(api.FForm)
	}
	made.indices = indices
	l.lookArgs(f, made, sorts[len(f.params):])
	return made
}

// lookArgs looks the arguments of a constructor over. FPos: the family stands in one where it must not; FLevel: one is too great.
func (l *looker) lookArgs(f *family, c *ctor, sorts []*rank) {
	c.fixed = true
	for i, typ := range c.args {
		if typ.has(f.name) {
			c.again = append(c.again, f.recursive(typ, i))
		}
		if !f.proofs && !sorts[i].leq(f.level) {
			throw(api.FLevel)
		}
		told := slices.ContainsFunc(c.indices, func(index *node) bool { return isVariable(index, len(c.args)-1-i) })
		c.fixed = c.fixed && (told || sorts[i].leq(l.number(0)))
	}
}

func isVariable(t *node, n int) bool { return t.kind == api.Var && t.n == n }

// recursive takes the type of an argument apart that has so many others ahead of it. FPos: the family stands in it where it
// must not.
func (f *family) recursive(typ *node, number int) recursive {
	xs, result := typ.products()
	js, ok := f.applied(result, number+len(xs))
	if !ok || slices.ContainsFunc(xs, f.standsIn) {
		throw(api.FPos)
	}
	return recursive{number, xs, js}
}

// applied are the indices of the family, applied to the variables of its parameters, behind which so many others stand, and to
// indices in which it does not stand. false: the term is another one.
func (f *family) applied(t *node, behind int) ([]*node, bool) {
	head, args := t.spine()
	if head != f.itself || len(args) != len(f.params)+len(f.indices) {
		return nil, false
	}
	for i := range f.params {
		if !isVariable(args[i], behind+len(f.params)-1-i) {
			return nil, false
		}
	}
	indices := args[len(f.params):]
	return indices, !slices.ContainsFunc(indices, f.standsIn)
}

func (f *family) standsIn(t *node) bool { return t.has(f.name) }
