package prover_test

import (
	"slices"

	"provekernel/api"
	"provekernel/tree"
)

// signs of constants, by their commands: of each pi that their types begin with whether it is implicit.
type signs map[string][]bool

// ofForalls are the signs of the forall that a type begins with.
func ofForalls(e api.Expr) []bool {
	var found []bool
	for ; e.Kind == api.XForall; e = e.Args[1] {
		found = append(found, e.Implicit)
	}
	return found
}

// add tells those of a command.
func (s signs) add(c *api.Command) {
	var own, params []bool
	for _, b := range c.Binders {
		own, params = append(own, b.Implicit), append(params, true)
	}
	s[c.Name] = own
	if c.Kind != api.CInductive {
		s[c.Name] = slices.Concat(own, ofForalls(c.Type))
	}
	for _, ctor := range c.Ctors {
		s[ctor.Name] = slices.Concat(params, ofForalls(ctor.Type))
	}
}

// says tells whether a term is what an expression says, with its holes and implicit arguments filled in and nothing else.
func (s signs) says(e *api.Expr, t *api.Term, names []string) bool {
	within := append(names[:len(names):len(names)], e.Name)
	kinds := map[int]int{api.XFun: api.Lam, api.XForall: api.Pi, api.XLet: api.Let}
	switch e.Kind {
	case api.XHole:
		return true
	case api.XIs:
		return s.says(&e.Args[0], t, names)
	case api.XSort:
		return t.Kind == api.Sort && tree.SameLevel(t.Levels[0], e.Levels[0])
	case api.XName, api.XApply:
		return s.application(e, t, names)
	}
	if t.Kind != kinds[e.Kind] {
		return false
	}
	last := len(e.Args) - 1
	for i := range last {
		if !s.says(&e.Args[i], &t.Args[i], names) {
			return false
		}
	}
	return s.says(&e.Args[last], &t.Args[last], within)
}

// application is says of a name, or of what is applied.
func (s signs) application(e *api.Expr, t *api.Term, names []string) bool {
	var args []*api.Expr
	for ; e.Kind == api.XApply; e = &e.Args[0] {
		args = append(args, &e.Args[1])
	}
	slices.Reverse(args)
	place := -1
	if e.Kind == api.XName && !e.Infix {
		for i, name := range names {
			if name == e.Name {
				place = i
			}
		}
	}
	if e.Kind == api.XName && place < 0 && !e.Explicit {
		args = filledIn(s[e.Name], args)
	}
	for _, arg := range slices.Backward(args) {
		if t.Kind != api.App || arg != nil && !s.says(arg, &t.Args[1], names) {
			return false
		}
		t = &t.Args[0]
	}
	switch {
	case e.Kind != api.XName:
		return s.says(e, t, names)
	case place >= 0:
		return t.Kind == api.Var && t.N == len(names)-1-place
	}
	return t.Kind == api.Const && t.Name == e.Name && (!e.Given || slices.EqualFunc(t.Levels, e.Levels, tree.SameLevel))
}

// filledIn are arguments with a nil for each implicit one: up to the next explicit one that is given, and those that follow the
// last one at once.
func filledIn(implicit []bool, args []*api.Expr) []*api.Expr {
	var all []*api.Expr
	for _, is := range implicit {
		switch {
		case is:
			all = append(all, nil)
		case len(args) == 0:
			return all
		default:
			all, args = append(all, args[0]), args[1:]
		}
	}
	return append(all, args...)
}

// saysCommand tells whether a declaration is what a command says; of a theorem by tactics its type.
func (s signs) saysCommand(c *api.Command, d *api.Decl) bool {
	kinds := map[int]int{api.CAxiom: api.Axiom, api.CDef: api.Def, api.CTheorem: api.Def, api.CInductive: api.Inductive}
	if d.Kind != kinds[c.Kind] || d.Name != c.Name || !slices.Equal(d.Params, c.Params) || len(c.Ctors) != len(d.Ctors) {
		return false
	}
	if d.Kind == api.Inductive && d.Arity != len(c.Binders) || !s.behind(c, &d.Type, api.Pi, &c.Type) {
		return false
	}
	if d.Kind == api.Def && !c.ByTactics && !s.behind(c, &d.Value, api.Lam, &c.Value) {
		return false
	}
	for i := range c.Ctors {
		if d.Ctors[i].Name != c.Ctors[i].Name || !s.behind(c, &d.Ctors[i].Type, api.Pi, &c.Ctors[i].Type) {
			return false
		}
	}
	return true
}

// behind is says of what stands behind a command's binders.
func (s signs) behind(c *api.Command, t *api.Term, kind int, e *api.Expr) bool {
	var names []string
	for _, b := range c.Binders {
		if t.Kind != kind || !s.says(&b.Type, &t.Args[0], names) {
			return false
		}
		names = append(names, b.Name)
		t = &t.Args[1]
	}
	return s.says(e, t, names)
}
