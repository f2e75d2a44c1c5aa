package prover_test

import (
	"math/rand"
	"slices"
	"strconv"

	"provekernel/api"
	"provekernel/tree"
)

// speller writes declarations of the core in the language: without holes, with @ and levels at all constants, with types at all
// binders.
type speller struct {
	*rand.Rand
	names []string // of the binders around, the outermost first
}

// meant tells whether a name must mean something that stands outside of a binder, in that part of it.
func (s *speller) meant(name string, t *api.Term, depth int) bool {
	switch t.Kind {
	case api.Var:
		return t.N > depth && t.N-depth <= len(s.names) && s.names[len(s.names)-(t.N-depth)] == name
	case api.Const:
		return t.Name == name
	}
	for i := range t.Args {
		if s.meant(name, &t.Args[i], depth+tree.Binders(t, i)) {
			return true
		}
	}
	return false
}

// binder draws the name of a binder of that part, or of those: one that means nothing else there.
func (s *speller) binder(parts ...*api.Term) string {
	names := []string{"x", "y", "z", "a'", "Nat", "Eq", "zero", "u", "intro", "refl", "b.c", "x1"}
	for n := 0; ; n++ {
		name := names[s.Intn(len(names))]
		if n > 4 {
			name = "v" + strconv.Itoa(len(s.names)+n)
		}
		if !slices.ContainsFunc(parts, func(part *api.Term) bool { return s.meant(name, part, 0) }) {
			return name
		}
	}
}

// under writes with one more binder around.
func (s *speller) under(name string, t *api.Term) api.Expr {
	s.names = append(s.names, name)
	e := s.expr(t)
	s.names = s.names[:len(s.names)-1]
	return e
}

// expr writes a term.
func (s *speller) expr(t *api.Term) api.Expr {
	switch t.Kind {
	case api.Var:
		return api.Expr{Kind: api.XName, Name: s.names[len(s.names)-1-t.N], Explicit: s.Intn(10) == 0}
	case api.Sort:
		return api.Expr{Kind: api.XSort, Levels: t.Levels}
	case api.Const:
		return api.Expr{Kind: api.XName, Name: t.Name, Explicit: true, Given: len(t.Levels) > 0, Levels: t.Levels}
	case api.App:
		return api.Expr{Kind: api.XApply, Args: []api.Expr{s.expr(&t.Args[0]), s.expr(&t.Args[1])}}
	case api.Let:
		name := s.binder(&t.Args[2])
		return api.Expr{Kind: api.XLet, Name: name, Args: []api.Expr{s.expr(&t.Args[0]), s.expr(&t.Args[1]), s.under(name, &t.Args[2])}}
	}
	name := s.binder(&t.Args[1])
	e := api.Expr{Kind: api.XFun, Name: name, Implicit: s.Intn(4) == 0, Args: []api.Expr{s.expr(&t.Args[0]), {}}}
	if t.Kind == api.Pi {
		e.Kind = api.XForall
		if !stands(&t.Args[1], 0) && s.Intn(2) == 0 {
			e.Name, e.Implicit = "", false
		}
	}
	e.Args[1] = s.under(e.Name, &t.Args[1])
	return e
}

// stands tells whether the variable of that number stands in a term.
func stands(t *api.Term, n int) bool {
	if t.Kind == api.Var {
		return t.N == n
	}
	for i := range t.Args {
		if stands(&t.Args[i], n+tree.Binders(t, i)) {
			return true
		}
	}
	return false
}

// begins tells with how many binders of the same types a type and a value, or two types, begin.
func begins(a, b *api.Term, kind int) int {
	n := 0
	for a.Kind == api.Pi && b.Kind == kind && tree.Same(&a.Args[0], &b.Args[0]) {
		a, b = &a.Args[1], &b.Args[1]
		n++
	}
	return n
}

// parts are a declaration's terms.
func parts(d *api.Decl) []*api.Term {
	ts := []*api.Term{&d.Type}
	if d.Kind == api.Def {
		ts = append(ts, &d.Value)
	}
	for i := range d.Ctors {
		ts = append(ts, &d.Ctors[i].Type)
	}
	return ts
}

// peeled takes a binder off each of the terms, and writes its type and a name.
func (s *speller) peeled(ts []*api.Term) api.Binder {
	var bodies []*api.Term
	typ := s.expr(&ts[0].Args[0])
	for i, t := range ts {
		bodies = append(bodies, &t.Args[1])
		ts[i] = &t.Args[1]
	}
	name := s.binder(bodies...)
	s.names = append(s.names, name)
	return api.Binder{Name: name, Implicit: s.Intn(3) == 0, Type: typ}
}

// command writes a declaration; byTactics: a definition as a theorem that intro and exact prove. false: a constructor does not
// write the parameters' types as its family does.
func (s *speller) command(d api.Decl, byTactics bool) (api.Command, bool) {
	s.names = nil
	c := api.Command{Kind: api.CAxiom, Name: d.Name, Params: d.Params}
	ts := parts(&d)
	n := begins(&d.Type, &d.Type, api.Pi)
	switch d.Kind {
	case api.Def:
		c.Kind, c.ByTactics = []int{api.CDef, api.CTheorem}[s.Intn(2)], byTactics
		n = begins(&d.Type, &d.Value, api.Lam)
	case api.Inductive:
		c.Kind = api.CInductive
		for i := range d.Ctors {
			n = min(n, begins(&d.Type, &d.Ctors[i].Type, api.Pi))
		}
		if n < d.Arity {
			return c, false
		}
	}
	binders := d.Arity
	if d.Kind != api.Inductive {
		binders = s.Intn(n + 1)
	}
	for range binders {
		c.Binders = append(c.Binders, s.peeled(ts))
	}
	c.Type = s.expr(ts[0])
	switch {
	case d.Kind == api.Def && byTactics:
		c.Kind, c.Tactics = api.CTheorem, s.proof(ts, n-binders)
	case d.Kind == api.Def:
		c.Value = s.expr(ts[1])
	}
	for i := range d.Ctors {
		c.Ctors = append(c.Ctors, api.CtorText{Name: d.Ctors[i].Name, Type: s.expr(ts[i+1])})
	}
	return c, true
}

// proof writes a value as intro of so many variables at most, and exact.
func (s *speller) proof(ts []*api.Term, most int) []api.Tactic {
	var made []api.Tactic
	for i := range s.Intn(most + 1) {
		name := s.peeled(ts).Name
		if i == 0 || s.Intn(2) == 0 {
			made = append(made, api.Tactic{Kind: api.TIntro})
		}
		last := &made[len(made)-1]
		last.Names = append(last.Names, name)
	}
	return append(made, api.Tactic{Kind: api.TExact, Exprs: []api.Expr{s.expr(ts[1])}})
}
