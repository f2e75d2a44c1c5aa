package reduce

import (
	"provekernel/api"
	"provekernel/level"
	"provekernel/tree"
)

// count counts parts of the term that is being told.
func (m *machine) count(parts int) {
	m.parts += parts
	if m.parts > tree.MostParts {
		tire()
	}
}

// teller makes a term of a thunk that stands under so many binders.
type teller func(what *thunk, depth int) api.Term

// whnf is the weak head normal form of a term.
func (m *machine) whnf(t api.Term) api.Term {
	head := m.run(&thunk{closure: closure{term: &t}})
	return settled(m.applied(m.parted(head, 0, m.plain), 0, m.plain, 0))
}

// normalForm is the normal form of a term.
func (m *machine) normalForm(t api.Term) api.Term {
	m.parts = 0
	return settled(m.normal(&thunk{closure: closure{term: &t}}, 0))
}

// normal tells a thunk, that stands under that many binders, in normal form.
func (m *machine) normal(what *thunk, depth int) api.Term {
	base := len(m.stack)
	made := m.parted(m.run(what), depth, m.normal)
	if m.eta && tree.Is(&made, api.Lam) {
		made = contracted(made)
	}
	return m.applied(made, base, m.normal, depth)
}

// plain tells a thunk as it is, without a step.
func (m *machine) plain(what *thunk, depth int) api.Term {
	return m.parted(what.closure, depth, m.plain)
}

// applied is what is told of a head, applied to the arguments that wait on the stack from base on.
func (m *machine) applied(made api.Term, base int, tell teller, depth int) api.Term {
	for i := len(m.stack) - 1; i >= base; i-- {
		m.count(1)
		made = api.Term{Kind: api.App, Args: []api.Term{made, tell(m.stack[i], depth)}}
	}
	m.stack = m.stack[:base]
	return made
}

// parted tells a closure by telling its parts. Each binder's node has the number of its variable as its N, until it is settled.
func (m *machine) parted(c closure, depth int, tell teller) api.Term {
	m.count(1)
	t, s := c.term, c.scope
	made := api.Term{Kind: t.Kind, Levels: m.levels(c)}
	switch t.Kind {
	case api.Var:
		made.N = t.N
	case api.Const:
		made.Name = t.Name
	case api.Lam, api.Pi, api.Let:
		made.N = bound(depth)
	}
	for i := range t.Args {
		if tree.Binders(t, i) > 0 {
			s, depth = s.with(outside(bound(depth))), depth+1
		}
		made.Args = append(made.Args, tell(s.enclose(&t.Args[i]), depth))
	}
	return made
}

// levels tells the levels of a closure's term.
func (m *machine) levels(c closure) []api.Level {
	var made []api.Level
	g := c.scope.leveling()
	for _, l := range c.term.Levels {
		m.count(g.partsOf(l))
		put, _ := g.change(l)
		made = append(made, level.Subst(put, nil, nil))
	}
	return made
}

// contracted is f of (lam A (app f #0)), where #0 does not stand in f; of another function itself.
func contracted(t api.Term) api.Term {
	body := t.Args[1]
	if !tree.Is(&body, api.App) || !isVariable(&body.Args[1], t.N) || stands(&body.Args[0], t.N) {
		return t
	}
	return body.Args[0]
}

// stands tells whether the variable of that number stands in a term that is not settled yet.
func stands(t *api.Term, n int) bool {
	if isVariable(t, n) {
		return true
	}
	for i := range t.Args {
		if stands(&t.Args[i], n) {
			return true
		}
	}
	return false
}

func isVariable(t *api.Term, n int) bool { return t.Kind == api.Var && t.N == n }

// settled gives the variables of a term that has been told, that none else holds, the numbers that they have in a term: up to
// here those that are bound in it are told by their binder, wherever it stands, so that parts may move up without a change.
func settled(t api.Term) api.Term {
	depths := map[int]int{}
	var settle func(t *api.Term, depth int)
	settle = func(t *api.Term, depth int) {
		if t.Kind == api.Var {
			if t.N < 0 {
				t.N = -1 - depths[t.N]
			}
			t.N += depth
			return
		}
		n := t.N
		t.N = 0
		for i := range t.Args {
			if tree.Binders(t, i) > 0 {
				depths[n] = depth
				depth++
			}
			settle(&t.Args[i], depth)
		}
	}
	settle(&t, 0)
	return t
}
