package elab

import (
	"provekernel/api"
	"provekernel/file"
	"provekernel/reduce"
	"provekernel/tactic"
	"provekernel/telescope"
	"provekernel/term"
)

// constant: what must be known of one beside its type.
type constant struct {
	implicit []bool // of each pi that its type begins with
	params   int    // how many levels it has
	moves    bool   // it may take a step where it is the head
	major    int    // of a recursor: the number of the argument that decides whether it takes one; of others below 0

	family     *tactic.Family // nil: it is none
	isEquality bool           // it is the Eq of the library
}

// equality is the constant that the sign = means.
const equality = "Eq"

// libraryEquality is that constant's family, as the library has it.
const libraryEquality = "(inductive Eq (u) 2 (pi (sort u) (pi #0 (pi #1 (sort 0)))) (ctor refl (pi (sort u) (pi #0 (app (app (app (const Eq u) #1) #0) #0)))))"

// find is what is known of a constant; false: there is none of that name.
func (s *State) find(name string) (constant, bool) {
	c, ok := s.known[name]
	return c, ok
}

// keep remembers the constants of a command that has become that declaration.
func (s *State) keep(c *api.Command, d api.Decl) {
	made := constant{params: len(d.Params), major: -1, moves: d.Kind == api.Def}
	made.implicit = ofBinders(c.Binders)
	if d.Kind != api.Inductive {
		made.implicit = append(made.implicit, ofForalls(&c.Type)...)
	}
	if d.Kind == api.Inductive {
		made.family, made.isEquality = s.keepParts(c, d), isEquality(d)
	}
	s.known[d.Name] = made
}

// isEquality tells whether a family is the library's equality, but for the name of its level's parameter.
func isEquality(d api.Decl) bool {
	if d.Name != equality || len(d.Params) != 1 || len(d.Ctors) != 1 {
		return false
	}
	u := api.Level{Kind: api.Param, Name: "u"}
	put := func(t api.Term) api.Term { return term.Levels(t, d.Params, []api.Level{u}) }
	ctor := api.Ctor{Name: d.Ctors[0].Name, Type: put(d.Ctors[0].Type)}
	named := api.Decl{Kind: d.Kind, Name: d.Name, Params: []string{u.Name}, Type: put(d.Type), Arity: d.Arity, Ctors: []api.Ctor{ctor}}
	return file.Print(named) == libraryEquality
}

// keepParts remembers a family's constructors and its recursor: what tactics must know of it.
func (s *State) keepParts(c *api.Command, d api.Decl) *tactic.Family {
	rec := reduce.Recursor(d.Name)
	params, _, _ := s.env.Type(rec)
	types, _ := telescope.Of(d.Type)
	s.known[rec] = constant{params: len(params), moves: true, major: len(types) + 1 + len(d.Ctors)}
	f := &tactic.Family{Params: d.Arity, Indices: len(types) - d.Arity, Levels: len(d.Params), Recursor: rec, RecursorLevels: len(params)}
	for i := range c.Ctors {
		f.Ctors = append(f.Ctors, c.Ctors[i].Name)
		signs := make([]bool, 0, len(c.Binders))
		for range c.Binders {
			signs = append(signs, true)
		}
		signs = append(signs, ofForalls(&c.Ctors[i].Type)...)
		s.known[c.Ctors[i].Name] = constant{implicit: signs, params: len(d.Params), major: -1}
	}
	return f
}

// ofBinders are the signs of a command's binders.
func ofBinders(bs []api.Binder) []bool {
	var signs []bool
	for i := range bs {
		signs = append(signs, bs[i].Implicit)
	}
	return signs
}

// ofForalls are the signs of the forall that a type begins with, as it is written.
func ofForalls(e *api.Expr) []bool {
	var signs []bool
	for ; e.Kind == api.XForall && len(e.Args) == 2; e = &e.Args[1] {
		signs = append(signs, e.Implicit)
	}
	return signs
}
