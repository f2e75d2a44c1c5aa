package elab

import (
	"provekernel/api"
	"provekernel/fault"
	"provekernel/remake"
	"provekernel/tree"
)

// claim: two terms that must be equal, of which it cannot be told yet; and the place of the text that says so.
type claim struct {
	a, b *api.Term
	at   int
}

// agree throws FArg at that place, if two terms cannot be equal.
func (j *judge) agree(a, b *api.Term, at int) {
	j.place = at
	if !j.fits(a, b) {
		fault.ThrowAt(api.FArg, at)
	}
	j.settle()
}

// settle looks again at what waits, as long as more has been found since.
func (j *judge) settle() {
	for len(j.waiting) > 0 && j.looked != j.found {
		j.looked = j.found
		claims := j.waiting
		j.waiting = nil
		for _, c := range claims {
			j.place = c.at
			if !j.fits(c.a, c.b) {
				fault.ThrowAt(api.FArg, c.at)
			}
		}
	}
}

// wait puts off what cannot be told yet.
func (j *judge) wait(a, b *api.Term) bool {
	j.waiting = append(j.waiting, claim{a, b, j.place})
	return true
}

// tried is what work answers; what it has found, and what it has put off, is taken back if it answers false.
func (j *judge) tried(work func() bool) bool {
	found, waiting := len(j.trail), len(j.waiting)
	j.trials++
	ok := work()
	j.trials--
	if !ok {
		j.takeBack(found)
		j.waiting = j.waiting[:waiting]
	}
	return ok
}

// fits holds two terms against one another, and fills in what must be so for them to be equal. false: they cannot be.
func (j *judge) fits(a, b *api.Term) bool {
	j.Spend(1)
	a, b = j.headed(a), j.headed(b)
	switch {
	case a == b:
		return true
	case j.isOpen(a) || j.isOpen(b):
		return j.filledBy(a, b)
	case j.inForm(a) && j.inForm(b):
		return j.formsFit(a, b)
	}
	return j.stepsFit(a, b)
}

// stepsFit is fits of terms that may have to take steps.
func (j *judge) stepsFit(a, b *api.Term) bool {
	a, b = j.solved(a), j.solved(b)
	if j.same(a, b) {
		return true
	}
	if !j.hasHoles(a) && !j.hasHoles(b) {
		return j.equal(a, b)
	}
	alike := sameHead(a, b)
	if alike && j.tried(func() bool { return j.spinesFit(a, b) }) {
		return true
	}
	formA, formB := j.whnf(a), j.whnf(b)
	if j.isOpen(formA) || j.isOpen(formB) {
		return j.filledBy(formA, formB)
	}
	triedAlready := alike && formA == a && formB == b
	if !j.isBlocked(formA) && !j.isBlocked(formB) {
		return !triedAlready && j.formsFit(formA, formB)
	}
	if !triedAlready && j.tried(func() bool { return j.formsFit(formA, formB) }) {
		return true
	}
	return j.wait(a, b)
}

// sameHead tells whether two terms are applications of the same constant, or local, to as many arguments.
func sameHead(a, b *api.Term) bool {
	for tree.Is(a, api.App) && tree.Is(b, api.App) {
		a, b = &a.Args[0], &b.Args[0]
	}
	return a.Kind == api.Const && b.Kind == api.Const && a.Name == b.Name && len(a.Levels) == len(b.Levels)
}

// spinesFit is fits of applications of the same constant: of its levels, and of its arguments.
func (j *judge) spinesFit(a, b *api.Term) bool {
	headA, argsA := remake.Spine(a)
	headB, argsB := remake.Spine(b)
	for i := range headA.Levels {
		if !j.levelsFit(&headA.Levels[i], &headB.Levels[i]) {
			return false
		}
	}
	for i := range argsA {
		if !j.fits(argsA[i], argsB[i]) {
			return false
		}
	}
	return true
}

// formsFit is fits of weak head normal forms whose heads are no holes.
func (j *judge) formsFit(a, b *api.Term) bool {
	switch {
	case a.Kind == b.Kind && (tree.Is(a, api.Lam) || tree.Is(a, api.Pi)):
		return j.bindersFit(a, b)
	case tree.Is(a, api.Lam):
		return j.etaFits(a, b)
	case tree.Is(b, api.Lam):
		return j.etaFits(b, a)
	case tree.Is(a, api.Sort) && tree.Is(b, api.Sort):
		return j.levelsFit(&a.Levels[0], &b.Levels[0])
	}
	return sameHead(a, b) && j.spinesFit(a, b)
}

// bindersFit is fits of two lam, or two pi, and of all that they begin with: their variables are the same locals.
func (j *judge) bindersFit(a, b *api.Term) bool {
	kind := a.Kind
	var locals []*api.Term
	for tree.Is(a, kind) && tree.Is(b, kind) {
		typ := j.Filled(&a.Args[0], locals)
		if !j.fits(typ, j.Filled(&b.Args[0], locals)) {
			return false
		}
		locals = append(locals, j.newVariable(typ))
		a, b = &a.Args[1], &b.Args[1]
	}
	return j.fits(j.Filled(a, locals), j.Filled(b, locals))
}

// etaFits is fits of a lam and of a form that is none.
func (j *judge) etaFits(f, other *api.Term) bool {
	if other.Kind == api.Sort || other.Kind == api.Pi {
		return false
	}
	x := j.newVariable(&f.Args[0])
	return j.fits(j.Filled(&f.Args[1], []*api.Term{x}), remake.Apply(other, x))
}
