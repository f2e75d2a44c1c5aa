package elab

import (
	"slices"

	"provekernel/api"
	"provekernel/tree"
)

// guess fills in what waits and would not be found otherwise, where there is one way that comes to mind first. What comes of it
// is looked at by the kernel as all else is.
func (j *judge) guess() {
	for guessed := true; guessed; j.settle() {
		claims := j.waiting
		j.waiting, guessed = nil, false
		for _, c := range claims {
			if j.isGuessed(c) {
				guessed = true
			} else {
				j.waiting = append(j.waiting, c)
			}
		}
	}
}

// isGuessed fills in something that a claim asks for; false: there is no way.
func (j *judge) isGuessed(c claim) bool {
	j.place = c.at
	found := len(j.trail)
	return j.tried(func() bool { return j.guessFits(c.a, c.b) && len(j.trail) > found })
}

// guessFits is fits of terms that wait: a hole that is applied to something is taken for the function that the other one applies,
// or else for what does not hang on that.
func (j *judge) guessFits(a, b *api.Term) bool {
	a, b = j.headed(a), j.headed(b)
	if !j.isOpen(a) && !j.isOpen(b) {
		return false
	}
	if tree.Is(a, api.App) && tree.Is(b, api.App) {
		parts := func() bool { return j.fits(&a.Args[0], &b.Args[0]) && j.fits(&a.Args[1], &b.Args[1]) }
		if j.tried(parts) {
			return true
		}
	}
	return j.looselyFilled(a, b) || j.looselyFilled(b, a)
}

// looselyFilled makes a hole a term, as if it hung on nothing but the different variables that it is applied to.
func (j *judge) looselyFilled(a, t *api.Term) bool {
	return j.isOpen(a) && j.tried(func() bool {
		loose, ok := j.loosened(a)
		return ok && j.fillIn(loose, t) == done
	})
}

// loosened is a hole applied to different variables alone: it is made not to hang on others of its context, and is applied to new
// ones in the place of other arguments. Of a variable that stands there twice the last place counts.
func (j *judge) loosened(a *api.Term) (*api.Term, bool) {
	head, args := spine(a)
	number, _ := holeNumber(head)
	met := map[int]int{}
	made := slices.Clone(args)
	for i := len(args) - 1; i >= 0; i-- {
		local, ok := localNumber(j.headed(args[i]))
		if _, twice := met[local]; ok && !twice {
			met[local] = i
			continue
		}
		typ, ok := j.typeOf(args[i])
		if !ok {
			return nil, false
		}
		made[i] = j.newVariable(typ)
	}
	var kept []int
	for i := len(head.Args) - 1; i >= 0; i-- {
		local, ok := localNumber(j.headed(&head.Args[i]))
		if _, twice := met[local]; ok && !twice {
			met[local] = i
			kept = append(kept, i)
		}
	}
	slices.Reverse(kept)
	return applyTo(j.fewer(number, head, kept), made), true
}
