package elab

import (
	"slices"
	"strconv"

	"provekernel/api"
	"provekernel/fault"
	"provekernel/level"
	"provekernel/tree"
)

// The signs that the names of locals and of holes begin with: no name of a constant or a parameter begins so.
const (
	localMark = '#'
	holeMark  = '?'
)

// localTerm is a variable of the context, whatever number it would have where it stands: a constant that no environment knows.
func localTerm(number int) *api.Term {
	return &api.Term{Kind: api.Const, Name: markedName(localMark, number)}
}

// holeTerm is a hole, and what the variables of its context stand for: a constant that has parts. Steps keep these as they are.
func holeTerm(number int, variables []api.Term) *api.Term {
	return &api.Term{Kind: api.Const, Name: markedName(holeMark, number), Args: variables}
}

func variableTerm(n int) *api.Term { return &api.Term{Kind: api.Var, N: n} }

func markedName(mark byte, number int) string { return string(mark) + strconv.Itoa(number) }

// marked is the number in a name that begins with that sign; false: it does not.
func marked(mark byte, name string) (int, bool) {
	if len(name) == 0 || name[0] != mark {
		return 0, false
	}
	number, err := strconv.Atoi(name[1:])
	return number, err == nil
}

// localNumber is the number of a local; false: the term is none.
func localNumber(t *api.Term) (int, bool) {
	if t.Kind != api.Const {
		return 0, false
	}
	return marked(localMark, t.Name)
}

// budget: how much of looking at terms there may still be for one command.
type budget struct{ left int }

// spend throws FTired when too much has been looked at.
func (b *budget) spend(n int) {
	b.left -= n
	if b.left < 0 {
		fault.Throw(api.FTired)
	}
}

// change makes a term anew, with something else in some places. What it does not change it shares.
type change struct {
	*budget
	put   func(leaf *api.Term, binders int) *api.Term // in the place of a variable or a constant under that many binders; nil: it stays
	level func(l *api.Level) *api.Level               // in the place of a level; nil: all stay
}

// under makes what stands under that many of the term's binders: the very same, if nothing in it is another.
func (c *change) under(t *api.Term, binders int) *api.Term {
	c.spend(1)
	if t.Kind == api.Var || t.Kind == api.Const {
		if put := c.put(t, binders); put != nil {
			return put
		}
	}
	levels, otherLevels := t.Levels, false
	if c.level != nil {
		levels, otherLevels = changed(t.Levels, func(l *api.Level, _ int) *api.Level { return c.level(l) })
	}
	args, otherArgs := changed(t.Args, func(arg *api.Term, i int) *api.Term { return c.under(arg, binders+tree.Binders(t, i)) })
	if !otherLevels && !otherArgs {
		return t
	}
	return &api.Term{Kind: t.Kind, N: t.N, Name: t.Name, Levels: levels, Args: args}
}

// changed is a list with what change makes of its parts; false: all are the very same, and so is the list.
func changed[T any](parts []T, change func(part *T, i int) *T) ([]T, bool) {
	made, other := parts, false
	for i := range parts {
		put := change(&parts[i], i)
		if put == &parts[i] {
			continue
		}
		if !other {
			made, other = slices.Clone(parts), true
		}
		made[i] = *put
	}
	return made, other
}

// lifted is a term that stands under so many more binders.
func (b *budget) lifted(t *api.Term, n int) *api.Term {
	if n == 0 || t.Kind == api.Const && len(t.Args) == 0 {
		return t
	}
	c := change{budget: b, put: func(leaf *api.Term, binders int) *api.Term {
		if leaf.Kind != api.Var || leaf.N < binders {
			return nil
		}
		return variableTerm(leaf.N + n)
	}}
	return c.under(t, 0)
}

// opened is a term whose outermost variables stand for others that have not been put in yet, the first one the outermost.
type opened struct {
	term *api.Term
	args []*api.Term
}

// with is a part of the term under one more binder, whose variable stands for that.
func (o opened) with(part *api.Term, arg *api.Term) opened {
	return opened{part, append(o.args[:len(o.args):len(o.args)], arg)}
}

// filled is a term with what its variables stand for put in.
func (b *budget) filled(t *api.Term, args []*api.Term) *api.Term {
	if len(args) == 0 {
		return t
	}
	c := change{budget: b, put: func(leaf *api.Term, binders int) *api.Term {
		if leaf.Kind != api.Var || leaf.N < binders {
			return nil
		}
		if n := leaf.N - binders; n < len(args) {
			return b.lifted(args[len(args)-1-n], binders)
		}
		return variableTerm(leaf.N - len(args))
	}}
	return c.under(t, 0)
}

// replaced is a term with another one, that has no variables, in the place of a local.
func (b *budget) replaced(t *api.Term, local int, by *api.Term) *api.Term {
	c := change{budget: b, put: func(leaf *api.Term, _ int) *api.Term {
		if number, ok := localNumber(leaf); ok && number == local {
			return by
		}
		return nil
	}}
	return c.under(t, 0)
}

// bound is a term under binders of these locals, the last one the innermost; their numbers go up.
func (b *budget) bound(t *api.Term, locals []int) *api.Term {
	if len(locals) == 0 {
		return t
	}
	c := change{budget: b, put: func(leaf *api.Term, binders int) *api.Term {
		number, ok := localNumber(leaf)
		if !ok {
			return nil
		}
		place, ok := slices.BinarySearch(locals, number)
		if !ok {
			return nil
		}
		return variableTerm(len(locals) - 1 - place + binders)
	}}
	return c.under(t, 0)
}

// boundBy is a term under binders of that kind, of these locals and their types.
func (j *judge) boundBy(kind int, t *api.Term, locals []int) *api.Term {
	made := j.bound(t, locals)
	for i := len(locals) - 1; i >= 0; i-- {
		typ := j.bound(j.locals[locals[i]].typ, locals[:i])
		made = &api.Term{Kind: kind, Args: []api.Term{*typ, *made}}
	}
	return made
}

// spine takes (..(f a1) .. an) apart into f, that is no application, and a1, .., an.
func spine(t *api.Term) (*api.Term, []*api.Term) {
	var args []*api.Term
	for ; tree.Is(t, api.App); t = &t.Args[0] {
		args = append(args, &t.Args[1])
	}
	slices.Reverse(args)
	return t, args
}

// partsOf are the parts of a term.
func partsOf(t *api.Term) []*api.Term {
	var parts []*api.Term
	for i := range t.Args {
		parts = append(parts, &t.Args[i])
	}
	return parts
}

// headOf is the f of (..(f a1) .. an).
func headOf(t *api.Term) *api.Term {
	for tree.Is(t, api.App) {
		t = &t.Args[0]
	}
	return t
}

// applyTo is (..(f a1) .. an) of f and a1, .., an.
func applyTo(f *api.Term, args []*api.Term) *api.Term {
	for _, arg := range args {
		f = &api.Term{Kind: api.App, Args: []api.Term{*f, *arg}}
	}
	return f
}

// sortTerm is the sort of a level.
func sortTerm(l api.Level) *api.Term {
	return &api.Term{Kind: api.Sort, Levels: []api.Level{l}}
}

// successor of a level.
func successor(l api.Level) api.Level {
	return api.Level{Kind: api.Succ, Args: []api.Level{l}}
}

// copiedLevels share nothing with the levels: what is handed in is not kept.
func copiedLevels(ls []api.Level) []api.Level {
	var made []api.Level
	for _, l := range ls {
		made = append(made, level.Subst(l, nil, nil))
	}
	return made
}
