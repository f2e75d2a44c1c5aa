package elab

import (
	"slices"

	"provekernel/api"
	"provekernel/remake"
)

// hole: what is left open of a text, or of a type that is looked for. It hangs on the variables of its context, which are those
// of its type and of what is found for it.
type hole struct {
	at    int       // where it stands
	arity int       // how many variables its context has
	typ   *api.Term // nil: it is not known yet
	value *api.Term // nil: it has not been found yet
}

// levelHole is a level that is left open.
type levelHole struct {
	at    int
	value *api.Level // nil: it has not been found yet
}

// finding: which hole was found, or told anew with more that has been found put in.
type finding struct {
	isLevel bool
	number  int
	before  *api.Term // what was known of the hole; nil: nothing
}

// holes of a command, in the order in which they were made: those of its text first.
type holes struct {
	terms  []hole
	levels []levelHole
	trail  []finding // what has been found, in order
	found  int       // how many holes and levels that is
	turns  int       // how often something has been found or taken back
	trials int       // how many trials are going on, that may be taken back
	larger int       // how many attempts are, likewise
}

// newHole makes a hole in a context of so many variables: its number.
func (h *holes) newHole(at, arity int) int {
	h.terms = append(h.terms, hole{at: at, arity: arity})
	return len(h.terms) - 1
}

// newLevel makes a level that is left open.
func (h *holes) newLevel(at int) api.Level {
	h.levels = append(h.levels, levelHole{at: at})
	return remake.LevelHole(len(h.levels) - 1)
}

// fill fills a hole in.
func (h *holes) fill(number int, value *api.Term) {
	h.terms[number].value = value
	h.trail = append(h.trail, finding{number: number})
	h.found++
	h.turns++
}

// fillLevel fills a level in.
func (h *holes) fillLevel(number int, value *api.Level) {
	h.levels[number].value = value
	h.trail = append(h.trail, finding{isLevel: true, number: number})
	h.found++
	h.turns++
}

// retell puts a value in the place of one that is the same, but that less of what has been found is put in there.
func (h *holes) retell(number int, value *api.Term) {
	if h.trials+h.larger > 0 {
		h.trail = append(h.trail, finding{number: number, before: h.terms[number].value})
	}
	h.terms[number].value = value
}

// takeBack empties what has been found since the trail had that length.
func (h *holes) takeBack(length int) {
	for _, f := range slices.Backward(h.trail[length:]) {
		if f.isLevel {
			h.levels[f.number].value = nil
		} else {
			h.terms[f.number].value = f.before
		}
		if f.before == nil {
			h.found--
		}
	}
	h.trail = h.trail[:length]
	h.turns++
}

// isOpen tells whether the head of a term is a hole that has not been found.
func (j *judge) isOpen(t *api.Term) bool {
	number, ok := remake.HoleNumber(remake.HeadOf(t))
	return ok && j.terms[number].value == nil
}

// solved is a term with all that has been found put in.
func (j *judge) solved(t *api.Term) *api.Term {
	c := remake.Change{Budget: &j.Budget, Level: j.solvedLevel}
	c.Put = func(leaf *api.Term, binders int) *api.Term {
		value := j.valueOf(leaf)
		if value == nil {
			return nil
		}
		var args []*api.Term
		for i := range leaf.Args {
			args = append(args, c.Under(&leaf.Args[i], binders))
		}
		return j.Filled(value, args)
	}
	return c.Under(t, 0)
}

// valueOf is what has been found for a hole, with all in it that has been; nil: nothing, or the term is no hole. It is kept for
// the next time.
func (j *judge) valueOf(t *api.Term) *api.Term {
	number, ok := remake.HoleNumber(t)
	if !ok || j.terms[number].value == nil {
		return nil
	}
	value := j.solved(j.terms[number].value)
	if value != j.terms[number].value {
		j.retell(number, value)
	}
	return value
}

// solvedLevel is a level with all that has been found put in: the very same, if that is nothing.
func (j *judge) solvedLevel(l *api.Level) *api.Level {
	j.Spend(1)
	if number, ok := remake.LevelNumber(l); ok {
		value := j.levels[number].value
		if value == nil {
			return l
		}
		return j.solvedLevel(value)
	}
	args, other := remake.Parts(l.Args, func(arg *api.Level, _ int) *api.Level { return j.solvedLevel(arg) })
	if !other {
		return l
	}
	return &api.Level{Kind: l.Kind, Name: l.Name, Args: args}
}

// isNew tells whether nothing at all is known of a hole.
func (h *holes) isNew(number int) bool {
	return h.terms[number].typ == nil && h.terms[number].value == nil
}

// hasHole tells whether that hole stands in a term, as it will be when all that has been found is put in.
func (j *judge) hasHole(t *api.Term, number int) bool {
	stands := false
	c := remake.Change{Budget: &j.Budget, Put: func(leaf *api.Term, _ int) *api.Term {
		found, ok := remake.HoleNumber(leaf)
		stands = stands || ok && found == number
		return nil
	}}
	c.Under(j.solved(t), 0)
	return stands
}

// firstHole is a place where something is left open in a term that is solved, or in what its lets stand for; false: nothing is.
func (j *judge) firstHole(t *api.Term) (at int, ok bool) {
	j.Spend(1)
	if number, isHole := remake.HoleNumber(t); isHole {
		return j.terms[number].at, true
	}
	if number, isLocal := remake.LocalNumber(t); isLocal && j.locals[number].value != nil {
		return j.firstHole(j.solved(j.locals[number].value))
	}
	for i := range t.Levels {
		if at, ok := j.firstLevel(&t.Levels[i]); ok {
			return at, true
		}
	}
	for i := range t.Args {
		if at, ok := j.firstHole(&t.Args[i]); ok {
			return at, true
		}
	}
	return 0, false
}

// firstLevel is a place where something is left open in a level that is solved; false: nothing is.
func (j *judge) firstLevel(l *api.Level) (at int, ok bool) {
	j.Spend(1)
	if number, isHole := remake.LevelNumber(l); isHole {
		return j.levels[number].at, true
	}
	for i := range l.Args {
		if at, ok := j.firstLevel(&l.Args[i]); ok {
			return at, true
		}
	}
	return 0, false
}

// hasHoles tells whether something is left open in a term that is solved.
func (j *judge) hasHoles(t *api.Term) bool {
	_, ok := j.firstHole(t)
	return ok
}

func (j *judge) levelHasHoles(l *api.Level) bool {
	_, ok := j.firstLevel(l)
	return ok
}
