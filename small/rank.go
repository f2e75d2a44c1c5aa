package small

import (
	"slices"

	"provekernel/api"
)

// great outweighs, as the number of a parameter, whatever a text can add to it.
const great = 1 << 40

// mostParams: how many parameters a declaration may have.
const mostParams = 6

// numbersOf are, for each of so many parameters, its numbers at all points at which levels are held against each other.
//
// Once it is settled which parameters are 0, no imax is left in a level: it is the greatest of a number and of some
// p + k. Of two of these one is always at most the other just if it is so where all other parameters are 1, and where one
// of them, but only one, is great.
func numbersOf(params int) [][]int {
	numbers := make([][]int, params)
	put := func(set, large int) {
		for p := range numbers {
			number := set >> p & 1
			if p == large {
				number = great
			}
			numbers[p] = append(numbers[p], number)
		}
	}
	for set := range 1 << params {
		put(set, -1)
		for p := range params {
			if set>>p&1 == 1 {
				put(set, p)
			}
		}
	}
	return numbers
}

// pointsOf tells how many points there are for so many parameters: each set of those that are not 0, and each of its members.
func pointsOf(params int) int { return 1<<params + params<<params/2 }

// rank is a level: what it is worth at each of the points. That is found once it is asked for: most levels never are.
type rank struct {
	worths []int
	find   func() []int
	level  *node // as it is written, if it is
	in     *leveling
}

func (r *rank) found() []int {
	if r.worths == nil {
		r.worths, r.find = r.find(), nil
	}
	return r.worths
}

// leq tells whether a level is worth at most what another one is, whatever the numbers.
func (r *rank) leq(other *rank) bool {
	b := other.found()
	for i, worth := range r.found() {
		if worth > b[i] {
			return false
		}
	}
	return true
}

// same tells whether two levels are worth the same, whatever the numbers.
func (r *rank) same(other *rank) bool {
	return r.isWritten(other) || slices.Equal(r.found(), other.found())
}

// isWritten tells whether a level is written as another one is, and its parameters stand for the very same: most that are held
// against each other are, and nothing need be found of them.
func (r *rank) isWritten(other *rank) bool {
	if r == other || r.level == nil || r.level != other.level {
		return r == other
	}
	return r.level.plain || slices.Equal(r.in.params, other.in.params) && slices.Equal(r.in.ranks, other.in.ranks)
}

// leveling: what the parameters of levels stand for.
type leveling struct {
	params []string
	ranks  []*rank
}

// rank is a level, as it is written, whose parameters stand for others.
func (l *looker) rank(level *node, g *leveling) *rank {
	if i := slices.Index(g.params, level.name); level.kind == paramLevel && i >= 0 {
		return g.ranks[i]
	}
	return &rank{find: func() []int { return l.worths(level, g) }, level: level, in: g}
}

func (l *looker) ranks(levels []*node, g *leveling) []*rank {
	var made []*rank
	for _, level := range levels {
		made = append(made, l.rank(level, g))
	}
	return made
}

// worths are what a level is worth at each of the points, in a list of their own.
func (l *looker) worths(level *node, g *leveling) []int {
	switch level.kind {
	case succLevel:
		made := l.worths(level.parts[0], g)
		for i := range made {
			made[i]++
		}
		return made
	case maxLevel:
		return greater(l.worths(level.parts[0], g), l.worths(level.parts[1], g))
	case imaxLevel:
		return impredicative(l.worths(level.parts[0], g), l.worths(level.parts[1], g))
	case paramLevel:
		if i := slices.Index(g.params, level.name); i >= 0 {
			return slices.Clone(g.ranks[i].found())
		}
		throw(api.FParam)
	}
	return make([]int, l.points)
}

// greater makes a, a list of the caller's, the greater of the two, point by point.
func greater(a, b []int) []int {
	for i := range a {
		a[i] = max(a[i], b[i])
	}
	return a
}

// impredicative is likewise, but 0 where b is.
func impredicative(a, b []int) []int {
	for i := range a {
		if b[i] == 0 {
			a[i] = 0
		}
		a[i] = max(a[i], b[i])
	}
	return a
}

// number is the level that is worth that, always.
func (l *looker) number(worth int) *rank {
	return &rank{worths: slices.Repeat([]int{worth}, l.points)}
}

// above is the successor of a level.
func above(r *rank) *rank {
	return &rank{find: func() []int {
		made := slices.Clone(r.found())
		for i := range made {
			made[i]++
		}
		return made
	}}
}

// over is the level of the functions from things of one level to things of another.
func over(from, to *rank) *rank {
	return &rank{find: func() []int { return impredicative(slices.Clone(from.found()), to.found()) }}
}
