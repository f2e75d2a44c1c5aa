package elab

import (
	"provekernel/api"
	"provekernel/fault"
	"provekernel/remake"
	"provekernel/tree"
)

// constantType is the type of a constant with these levels.
func (j *judge) constantType(name string, levels []api.Level) *api.Term {
	known := j.declared(name)
	if len(levels) != len(known.params) {
		fault.Throw(api.FLevels)
	}
	if len(levels) == 0 {
		return &known.typ
	}
	stays := func(*api.Term, int) *api.Term { return nil }
	c := remake.Change{Budget: &j.Budget, Put: stays}
	c.Level = func(l *api.Level) *api.Level { return j.leveled(l, known.params, levels) }
	return c.Under(&known.typ, 0)
}

// declared is what is known of a constant; of the family in its constructors: what is said of it so far.
func (j *judge) declared(name string) declared {
	if j.family != nil && j.family.Name == name {
		return declared{j.family.Params, *j.solved(&j.family.Type)}
	}
	known, ok := j.types[name]
	if !ok {
		known.params, known.typ, _ = j.env.Type(name)
		j.types[name] = known
	}
	return known
}

// leveled is a level with these in the place of parameters: the very same, if it has none of them.
func (j *judge) leveled(l *api.Level, params []string, levels []api.Level) *api.Level {
	j.Spend(1)
	if l.Kind == api.Param {
		for i, name := range params {
			if name == l.Name {
				return &levels[i]
			}
		}
		return l
	}
	args, other := remake.Parts(l.Args, func(arg *api.Level, _ int) *api.Level { return j.leveled(arg, params, levels) })
	if !other {
		return l
	}
	return &api.Level{Kind: l.Kind, Name: l.Name, Args: args}
}

// typeOf is the type that a term has, if it has one: it does not look whether arguments have the types that they must have.
// false: it has none, or it is not known yet.
func (j *judge) typeOf(t *api.Term) (*api.Term, bool) {
	j.Spend(1)
	t = j.headed(t)
	switch {
	case tree.Is(t, api.Sort):
		return remake.Sort(remake.Successor(t.Levels[0])), true
	case t.Kind == api.Const:
		return j.leafType(t), true
	case tree.Is(t, api.App):
		return j.applicationType(t)
	case tree.Is(t, api.Lam):
		return j.lamType(t)
	case tree.Is(t, api.Pi):
		return j.piType(t)
	case tree.Is(t, api.Let):
		return j.typeOf(j.Filled(&t.Args[2], []*api.Term{&t.Args[1]}))
	}
	return nil, false
}

// leafType is the type of a local, a hole or a constant. A hole of the text that has not been looked at yet has some type.
func (j *judge) leafType(t *api.Term) *api.Term {
	if number, ok := remake.LocalNumber(t); ok {
		return j.locals[number].typ
	}
	number, ok := remake.HoleNumber(t)
	if !ok {
		return j.constantType(t.Name, t.Levels)
	}
	if j.terms[number].typ == nil {
		typ := j.anyType(nil, j.terms[number].arity, j.terms[number].at)
		j.terms[number].typ = typ
	}
	return j.Filled(j.terms[number].typ, remake.PartsOf(t))
}

// anyType is a hole for a type, with so many variables around it: those behind the scope's are variables in it.
func (j *judge) anyType(s scope, depth, at int) *api.Term {
	typ := remake.Sort(j.newLevel(at))
	number := j.newHole(at, depth)
	j.terms[number].typ = typ
	return remake.Hole(number, j.variables(s, depth))
}

func (j *judge) applicationType(t *api.Term) (*api.Term, bool) {
	head, args := remake.Spine(t)
	typ, ok := j.typeOf(head)
	left := remake.Opened{Term: typ}
	for _, arg := range args {
		if !ok {
			return nil, false
		}
		if left, ok = j.asPi(left); ok {
			left = left.With(&left.Term.Args[1], arg)
		}
	}
	if !ok {
		return nil, false
	}
	return j.Put(left), true
}

func (j *judge) lamType(t *api.Term) (*api.Term, bool) {
	var numbers []int
	var locals []*api.Term
	for ; tree.Is(t, api.Lam); t = &t.Args[1] {
		number := j.newLocal(j.Filled(&t.Args[0], locals))
		numbers, locals = append(numbers, number), append(locals, j.locals[number].term)
	}
	typ, ok := j.typeOf(j.Filled(t, locals))
	if !ok {
		return nil, false
	}
	return j.boundBy(api.Pi, typ, numbers), true
}

func (j *judge) piType(t *api.Term) (*api.Term, bool) {
	var levels []api.Level
	var locals []*api.Term
	for ; tree.Is(t, api.Pi); t = &t.Args[1] {
		typ := j.Filled(&t.Args[0], locals)
		l, ok := j.levelOf(typ)
		if !ok {
			return nil, false
		}
		levels = append(levels, l)
		locals = append(locals, j.newVariable(typ))
	}
	last, ok := j.levelOf(j.Filled(t, locals))
	return remake.Sort(folded(levels, last)), ok
}

// levelOf is the level of the sort that is the type of a term; false: it is none, or not known yet.
func (j *judge) levelOf(t *api.Term) (api.Level, bool) {
	typ, ok := j.typeOf(t)
	if !ok {
		return api.Level{}, false
	}
	form := j.whnf(typ)
	if tree.Is(form, api.Sort) {
		return form.Levels[0], true
	}
	if !j.mayBecome(form) {
		return api.Level{}, false
	}
	l := j.newLevel(j.place)
	return l, j.fits(form, remake.Sort(l))
}
