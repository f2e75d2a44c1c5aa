package elab

import (
	"provekernel/api"
	"provekernel/fault"
	"provekernel/remake"
	"provekernel/tree"
)

// mostSteps: how much fuel a command is run with at most.
const mostSteps = 100000

// pass throws the fault of another layer: what it cannot do, for lack of fuel.
func pass(err error) {
	if code, _ := api.Code(err); code != 0 {
		fault.Throw(code)
	}
}

// headed is a term at whose head no hole stands that has been found.
func (j *judge) headed(t *api.Term) *api.Term {
	for {
		value := j.valueOf(remake.HeadOf(t))
		if value == nil {
			return t
		}
		head, args := remake.Spine(t)
		t = j.reapplied(j.Filled(value, remake.PartsOf(head)), args)
	}
}

// reapplied is a function applied to arguments, as far as it is a lam with these put in: what was found for a hole that is
// applied to variables is told as it is for these.
func (j *judge) reapplied(f *api.Term, args []*api.Term) *api.Term {
	taken := 0
	for tree.Is(f, api.Lam) && taken < len(args) {
		f = &f.Args[1]
		taken++
	}
	return remake.Apply(j.Filled(f, args[:taken]), args[taken:]...)
}

// inForm tells of a term, at whose head no hole stands that has been found, whether it is in weak head normal form for sure: no
// step need be looked for.
func (j *judge) inForm(t *api.Term) bool {
	head := remake.HeadOf(t)
	switch head.Kind {
	case api.Lam:
		return head == t
	case api.Let:
		return false
	case api.Const:
		return !j.moves(head.Name)
	}
	return true
}

// moves tells whether a constant may take a step where it is the head.
func (j *judge) moves(name string) bool {
	if number, ok := remake.LocalNamed(name); ok {
		return j.locals[number].isLet
	}
	known, _ := j.state.find(name)
	return known.moves
}

// whnf is the weak head normal form of a term: the term itself, if it is one already.
func (j *judge) whnf(t *api.Term) *api.Term {
	t = j.headed(t)
	if j.inForm(t) {
		return t
	}
	t = j.solved(t)
	j.refresh()
	made, steps, err := j.env.Whnf(*t, j.fuel)
	pass(err)
	j.Spend(steps + tree.Parts(&made))
	if j.same(&made, t) {
		return t
	}
	return &made
}

// isBlocked tells whether a weak head normal form is one only because something has not been found yet.
func (j *judge) isBlocked(t *api.Term) bool {
	head, args := remake.Spine(t)
	if head.Kind != api.Const {
		return false
	}
	known, _ := j.state.find(head.Name)
	if !known.moves || known.major < 0 || known.major >= len(args) {
		return false
	}
	major := j.whnf(args[known.major])
	return j.isOpen(major) || j.isBlocked(major)
}

// mayBecome tells whether a weak head normal form may become another one when more is known.
func (j *judge) mayBecome(t *api.Term) bool { return j.isOpen(t) || j.isBlocked(t) }

// same tells whether two terms are the same, as they are written.
func (j *judge) same(a, b *api.Term) bool {
	j.Spend(1)
	if a == b {
		return true
	}
	if a.Kind != b.Kind || a.N != b.N || a.Name != b.Name || len(a.Args) != len(b.Args) || len(a.Levels) != len(b.Levels) {
		return false
	}
	for i := range a.Levels {
		if !tree.SameLevel(a.Levels[i], b.Levels[i]) {
			return false
		}
	}
	for i := range a.Args {
		if !j.same(&a.Args[i], &b.Args[i]) {
			return false
		}
	}
	return true
}

// equal tells whether two terms in which nothing is left open are equal. How many steps that takes is not told: it counts as if
// it took some of those that it may.
func (j *judge) equal(a, b *api.Term) bool {
	j.Spend(tree.Parts(a) + tree.Parts(b) + min(j.fuel, mostSteps)/64)
	j.refresh()
	equal, err := j.env.Equal(*a, *b, j.fuel)
	pass(err)
	return equal
}
