package elab

import (
	"provekernel/api"
	"provekernel/reduce"
	"provekernel/telescope"
)

// constant: what must be known of one beside its type.
type constant struct {
	implicit []bool // of each pi that its type begins with
	params   int    // how many levels it has
	moves    bool   // it may take a step where it is the head
	major    int    // of a recursor: the number of the argument that decides whether it takes one; of others below 0
}

// find is what is known of a constant; false: there is none of that name.
func (s *State) find(name string) (constant, bool) {
	c, ok := s.known[name]
	return c, ok
}

// keep remembers the constants of a command that has become that declaration.
func (s *State) keep(c *api.Command, d api.Decl) {
	made := constant{params: len(d.Params), major: -1, moves: d.Kind == api.Def}
	made.implicit = ofBinders(c.Binders)
	if d.Kind != api.Inductive {
		made.implicit = append(made.implicit, ofForalls(&c.Type)...)
	}
	s.known[d.Name] = made
	if d.Kind == api.Inductive {
		s.keepParts(c, d)
	}
}

// keepParts remembers a family's constructors and its recursor.
func (s *State) keepParts(c *api.Command, d api.Decl) {
	for i := range c.Ctors {
		signs := make([]bool, 0, len(c.Binders))
		for range c.Binders {
			signs = append(signs, true)
		}
		signs = append(signs, ofForalls(&c.Ctors[i].Type)...)
		s.known[c.Ctors[i].Name] = constant{implicit: signs, params: len(d.Params), major: -1}
	}
	rec := reduce.Recursor(d.Name)
	params, _, _ := s.env.Type(rec)
	types, _ := telescope.Of(d.Type)
	s.known[rec] = constant{params: len(params), moves: true, major: len(types) + 1 + len(d.Ctors)}
}

// ofBinders are the signs of a command's binders.
func ofBinders(bs []api.Binder) []bool {
	var signs []bool
	for i := range bs {
		signs = append(signs, bs[i].Implicit)
	}
	return signs
}

// ofForalls are the signs of the forall that a type begins with, as it is written.
func ofForalls(e *api.Expr) []bool {
	var signs []bool
	for ; e.Kind == api.XForall && len(e.Args) == 2; e = &e.Args[1] {
		signs = append(signs, e.Implicit)
	}
	return signs
}
