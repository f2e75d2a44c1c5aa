package derive

import (
	"slices"

	"provekernel/api"
	"provekernel/term"
)

// mostApart: how many parts the terms of a derivation may have together so that each is told with lists of its own. Those of
// a greater one share them, and are never changed: apart they would take up gigabytes, of a term that is long but plain.
const mostApart = 1 << 21

// told are the steps as they are answered.
func (d *deriver) told() []api.Step {
	made := make([]api.Step, 0, len(d.steps))
	for _, s := range d.steps {
		types := d.types(s.context)
		made = append(made, api.Step{Rule: s.rule, Ctx: types[:len(types):len(types)], Term: s.term.Term, Type: s.typ.Term, Prems: s.prems})
	}
	if d.size() > mostApart {
		return made
	}
	for i, s := range made {
		made[i].Ctx = slices.Clone(s.Ctx)
		for j, typ := range s.Ctx {
			made[i].Ctx[j] = copied(typ)
		}
		made[i].Term, made[i].Type = copied(s.Term), copied(s.Type)
	}
	return made
}

// size tells how many parts the terms of all steps have together.
func (d *deriver) size() int {
	n := 0
	for _, s := range d.steps {
		n += s.context.size + s.term.size + s.typ.size
	}
	return n
}

// copied shares no list with the term.
func copied(t api.Term) api.Term { return term.Lift(t, 0, 0) }
