package remake

import (
	"strconv"

	"provekernel/api"
)

// The signs that the names of locals, holes and slots begin with: no name of a constant or a parameter begins so.
const (
	localMark = '#'
	holeMark  = '?'
	slotMark  = '!'
)

// Local is a variable of the context, whatever number it would have where it stands: a constant that no environment knows.
func Local(number int) *api.Term { return markedTerm(localMark, number) }

// LocalNumber is the number of a local; false: the term is none.
func LocalNumber(t *api.Term) (int, bool) { return numberOf(localMark, t) }

// LocalNamed is the number of the local whose term has that name; false: it is no local's.
func LocalNamed(name string) (int, bool) { return marked(localMark, name) }

// Slot is a place that a term will be put into, as it stands: with the locals that it has.
func Slot(number int) *api.Term { return markedTerm(slotMark, number) }

// SlotNumber is the number of a slot; false: the term is none.
func SlotNumber(t *api.Term) (int, bool) { return numberOf(slotMark, t) }

// Hole is what is left open, and what the variables of its context stand for: a constant that has parts. Steps keep these as they
// are.
func Hole(number int, variables []api.Term) *api.Term {
	t := markedTerm(holeMark, number)
	t.Args = variables
	return t
}

// HoleNumber is the number of a hole; false: the term is none.
func HoleNumber(t *api.Term) (int, bool) { return numberOf(holeMark, t) }

// LevelHole is a level that is left open.
func LevelHole(number int) api.Level {
	return api.Level{Kind: api.Param, Name: markedName(holeMark, number)}
}

// LevelNumber is the number of a level that is left open; false: it is none.
func LevelNumber(l *api.Level) (int, bool) {
	if l.Kind != api.Param {
		return 0, false
	}
	return marked(holeMark, l.Name)
}

func markedTerm(mark byte, number int) *api.Term {
	return &api.Term{Kind: api.Const, Name: markedName(mark, number)}
}

func numberOf(mark byte, t *api.Term) (int, bool) {
	if t.Kind != api.Const {
		return 0, false
	}
	return marked(mark, t.Name)
}

func markedName(mark byte, number int) string { return string(mark) + strconv.Itoa(number) }

// marked is the number in a name that begins with that sign; false: it does not.
func marked(mark byte, name string) (int, bool) {
	if len(name) == 0 || name[0] != mark {
		return 0, false
	}
	number, err := strconv.Atoi(name[1:])
	return number, err == nil
}
