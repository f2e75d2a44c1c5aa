package derive

import (
	"slices"

	"provekernel/api"
	"provekernel/term"
)

// mostApart: how many parts the terms of a derivation may have together so that each is told with lists of its own. Those of
// a greater one share them, and are never changed: apart they would take up gigabytes, of a term that is long but plain.
const mostApart = 1 << 21

// rules by the kinds of terms that they derive.
var rules = [...]int{api.Var: api.RVar, api.Sort: api.RSort, api.Const: api.RConst, api.App: api.RApp, api.Lam: api.RLam, api.Pi: api.RPi, api.Let: api.RLet}

// premCounts: how many steps a step stands on, by the kind of its term.
var premCounts = [...]int{api.App: 2, api.Lam: 2, api.Pi: 2, api.Let: 3}

// told are the steps as they are answered.
func (y *typist) told() []api.Step {
	for i := range y.steps {
		y.found = append(y.found, y.typeOf(&y.steps[i]))
	}
	apart := y.size() <= mostApart
	prems := make([]int, 0, y.premCount())
	made := make([]api.Step, len(y.steps))
	for i, s := range y.steps {
		t := y.nodes[s.term]
		made[i] = api.Step{Rule: rules[t.Kind], Ctx: y.listed(s.context), Term: t.Term, Type: y.found[i].Term}
		if n := premCounts[t.Kind]; n > 0 {
			at := len(prems)
			for _, prem := range s.prems[:n] {
				prems = append(prems, int(prem))
			}
			made[i].Prems = prems[at : at+n : at+n]
		}
		if apart {
			keepApart(&made[i])
		}
	}
	return made
}

// premCount tells how many steps all steps stand on: one list has them all, in which each step has its own part.
func (y *typist) premCount() int {
	n := 0
	for _, s := range y.steps {
		n += premCounts[y.nodes[s.term].Kind]
	}
	return n
}

// size tells how many parts the terms of all steps have together.
func (y *typist) size() int {
	n := 0
	for i, s := range y.steps {
		n += y.contexts[s.context].size + y.nodes[s.term].size + y.found[i].size
	}
	return n
}

// listed are the types of a context, the outermost first. Contexts share their fronts: the first that is listed behind another
// goes on in its list, the next ones copy that.
func (y *typist) listed(number int32) []api.Term {
	c := &y.contexts[number]
	if c.types == nil && c.count > 0 {
		front, typ := y.listed(c.outer), y.nodes[c.typ].Term
		outer := &y.contexts[c.outer]
		if outer.goesOn {
			c.types = make([]api.Term, len(front)+1)
			copy(c.types, front)
			c.types[len(front)] = typ
		} else {
			c.types = append(outer.types, typ)
			outer.goesOn = true
		}
	}
	return c.types[:len(c.types):len(c.types)]
}

// keepApart makes the lists of a step its own.
func keepApart(s *api.Step) {
	s.Ctx = slices.Clone(s.Ctx)
	for i, typ := range s.Ctx {
		s.Ctx[i] = copied(typ)
	}
	s.Term, s.Type = copied(s.Term), copied(s.Type)
}

// copied shares no list with the term.
func copied(t api.Term) api.Term { return term.Lift(t, 0, 0) }
