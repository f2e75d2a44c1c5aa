package elab

import (
	"slices"

	"provekernel/api"
	"provekernel/remake"
	"provekernel/tree"
)

// guess fills in what waits and would not be found otherwise, where there is one way that comes to mind first. What comes of it
// is looked at by the kernel as all else is.
func (j *judge) guess() {
	for guessed := true; guessed; j.settle() {
		claims := j.waiting
		j.waiting, guessed = nil, false
		for _, c := range claims {
			j.place = c.at
			if j.guessFits(c.a, c.b) {
				guessed = true
			} else {
				j.waiting = append(j.waiting, c)
			}
		}
	}
}

// guessParams fills in what has not been found of a family's parameters in its constructors: no other ones may stand there.
func (j *judge) guessParams(params []paramHole) {
	for _, p := range params {
		if h := j.terms[p.hole]; h.value == nil {
			j.fill(p.hole, remake.Variable(h.arity-1-p.number))
		}
	}
	j.settle()
}

// guessFits is fits of terms that wait: a hole that is applied to something is taken for the function that the other one applies,
// or else for what does not hang on that.
func (j *judge) guessFits(a, b *api.Term) bool {
	a, b = j.headed(a), j.headed(b)
	if !j.isOpen(a) && !j.isOpen(b) {
		return false
	}
	return j.partsGuessed(a, b) || j.looselyFilled(a, b) || j.looselyFilled(b, a)
}

// partsGuessed holds the functions and the arguments of two applications against one another; false: nothing is found by that.
func (j *judge) partsGuessed(a, b *api.Term) bool {
	if !tree.Is(a, api.App) || !tree.Is(b, api.App) {
		return false
	}
	found := j.found
	return j.tried(func() bool {
		return j.fits(&a.Args[0], &b.Args[0]) && j.fits(&a.Args[1], &b.Args[1]) && j.found > found
	})
}

// looselyFilled makes a hole a term, as if it hung on nothing but the different variables that it is applied to.
func (j *judge) looselyFilled(a, t *api.Term) bool {
	return j.isOpen(a) && j.tried(func() bool {
		loose, ok := j.loosened(a)
		return ok && j.fillIn(loose, t) == done
	})
}

// loosened is a hole applied to different variables alone: it is made not to hang on others of its context, and is applied to new
// ones in the place of other arguments. Of a variable that stands there twice the last place counts.
func (j *judge) loosened(a *api.Term) (*api.Term, bool) {
	head, args := remake.Spine(a)
	number, _ := remake.HoleNumber(head)
	met := map[int]int{}
	made := slices.Clone(args)
	for i := len(args) - 1; i >= 0; i-- {
		local, ok := remake.LocalNumber(j.headed(args[i]))
		if _, twice := met[local]; ok && !twice {
			met[local] = i
			continue
		}
		typ, ok := j.typeOf(args[i])
		if !ok {
			return nil, false
		}
		made[i] = j.newVariable(typ)
	}
	var kept []int
	for i := len(head.Args) - 1; i >= 0; i-- {
		local, ok := remake.LocalNumber(j.headed(&head.Args[i]))
		if _, twice := met[local]; ok && !twice {
			met[local] = i
			kept = append(kept, i)
		}
	}
	slices.Reverse(kept)
	return remake.Apply(j.fewer(number, head, kept), made...), true
}

// fewer is a hole that hangs on these of its variables alone.
func (j *judge) fewer(number int, t *api.Term, kept []int) *api.Term {
	old := j.terms[number]
	var typ *api.Term
	if old.typ != nil {
		typ = j.withFewer(old.typ, old.arity, kept)
	}
	made := j.newHole(old.at, len(kept))
	j.terms[made].typ = typ
	var variables, args []api.Term
	for _, i := range kept {
		variables = append(variables, *remake.Variable(old.arity - 1 - i))
		args = append(args, t.Args[i])
	}
	j.fill(number, remake.Hole(made, variables))
	return remake.Hole(made, args)
}

// withFewer is a term of so many variables that has these alone; nil: others stand in it.
func (j *judge) withFewer(t *api.Term, arity int, kept []int) *api.Term {
	others := false
	c := remake.Change{Budget: &j.Budget, Put: func(leaf *api.Term, binders int) *api.Term {
		if leaf.Kind != api.Var || leaf.N < binders {
			return nil
		}
		place, ok := slices.BinarySearch(kept, arity-1-(leaf.N-binders))
		others = others || !ok
		return remake.Variable(len(kept) - 1 - place + binders)
	}}
	made := c.Under(j.solved(t), 0)
	if others {
		return nil
	}
	return made
}
