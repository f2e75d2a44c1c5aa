package elab

import (
	"provekernel/api"
	"provekernel/fault"
	"provekernel/level"
	"provekernel/remake"
	"provekernel/tree"
)

// levelsFit holds two levels against one another, and fills in what must be so for them to be worth the same. false: they
// cannot be.
func (j *judge) levelsFit(a, b *api.Level) bool {
	a, b = j.solvedLevel(a), j.solvedLevel(b)
	for a.Kind == api.Succ && b.Kind == api.Succ {
		a, b = &a.Args[0], &b.Args[0]
	}
	if tree.SameLevel(*a, *b) || j.levelFilled(a, b) || j.levelFilled(b, a) {
		return true
	}
	if !j.levelHasHoles(a) && !j.levelHasHoles(b) {
		return sameLevel(a, b)
	}
	plainA, plainB := plainer(*a), plainer(*b)
	if !tree.SameLevel(*a, plainA) || !tree.SameLevel(*b, plainB) {
		return j.levelsFit(&plainA, &plainB)
	}
	return j.partsFit(a, b)
}

// levelFilled makes a level that is left open another one, if it is left open and does not stand in that.
func (j *judge) levelFilled(a, b *api.Level) bool {
	number, ok := remake.LevelNumber(a)
	if !ok || j.standsIn(number, b) {
		return false
	}
	j.fillLevel(number, b)
	return true
}

// standsIn tells whether a level that is left open stands in a level that is solved.
func (j *judge) standsIn(number int, l *api.Level) bool {
	if found, ok := remake.LevelNumber(l); ok && found == number {
		return true
	}
	for i := range l.Args {
		if j.standsIn(number, &l.Args[i]) {
			return true
		}
	}
	return false
}

// sameLevel tells whether levels are worth the same. FTired: they have too many parameters for it to be waited for.
func sameLevel(a, b *api.Level) bool {
	if !level.Comparable(*a, *b) {
		fault.Throw(api.FTired)
	}
	return level.Same(*a, *b)
}

// partsFit is levelsFit of levels, no plainer ones, in which something is left open, though not at their heads.
func (j *judge) partsFit(a, b *api.Level) bool {
	if b.Kind == api.Zero {
		a, b = b, a
	}
	zero := a.Kind == api.Zero
	switch {
	case zero && b.Kind == api.Succ:
		return false
	case zero && b.Kind == api.Max:
		return j.levelsFit(a, &b.Args[0]) && j.levelsFit(a, &b.Args[1])
	case zero && b.Kind == api.IMax:
		return j.levelsFit(a, &b.Args[1])
	case isParameter(a) && b.Kind == api.Succ, isParameter(b) && a.Kind == api.Succ:
		return false // a parameter may be worth 0
	}
	return j.wait(remake.Sort(*a), remake.Sort(*b))
}

// isParameter tells whether a level is a parameter of the declaration.
func isParameter(l *api.Level) bool {
	_, open := remake.LevelNumber(l)
	return l.Kind == api.Param && !open
}

// plainer is a level that is worth the same: with numbers told, with successors outside of what is the greater of two.
func plainer(l api.Level) api.Level {
	switch l.Kind {
	case api.Succ:
		return remake.Successor(plainer(l.Args[0]))
	case api.Max:
		return greater(plainer(l.Args[0]), plainer(l.Args[1]))
	case api.IMax:
		a, b := plainer(l.Args[0]), plainer(l.Args[1])
		switch {
		case b.Kind == api.Zero || tree.SameLevel(a, b) || a.Kind == api.Zero:
			return b
		case b.Kind == api.Succ:
			return greater(a, b)
		}
		return api.Level{Kind: api.IMax, Args: []api.Level{a, b}}
	}
	return l
}

// greater is the greater one of two levels, told plainly.
func greater(a, b api.Level) api.Level {
	switch {
	case a.Kind == api.Zero || tree.SameLevel(a, b):
		return b
	case b.Kind == api.Zero:
		return a
	case a.Kind == api.Succ && b.Kind == api.Succ:
		return remake.Successor(greater(a.Args[0], b.Args[0]))
	}
	return api.Level{Kind: api.Max, Args: []api.Level{a, b}}
}
