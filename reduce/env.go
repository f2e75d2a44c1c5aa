package reduce

import (
	"maps"
	"slices"

	"provekernel/api"
	"provekernel/term"
)

// kind of a constant that an environment knows.
type kind int

// The kinds of constants: only definitions and recursors take steps, only constructors let a recursor take one.
const (
	unknown kind = iota
	axiom
	definition
	inductive
	constructor
	recursor
)

// constant: what an environment knows of a name.
type constant struct {
	kind   kind
	params []string
	typ    api.Term
	value  *api.Term // of a definition
	family *family   // of a constructor and of a recursor
	number int       // of a constructor: its place among its family's
}

// Env knows constants by name.
type Env struct {
	decls []api.Decl
	known map[string]constant
	outer *Env // what is known beside these; nil: nothing
}

// New is an environment that knows nothing.
func New() *Env { return &Env{} }

// With is an environment that knows what this one does, and an axiom or a definition beside it. This one stays as it is: a
// layer can look at terms in an environment that there would be.
func (e *Env) With(d api.Decl) *Env {
	more := &Env{outer: e}
	more.Put(d, nil, api.Term{})
	return more
}

// Copy is an environment that knows what this one does: what is put into one of the two the other does not know.
func (e *Env) Copy() *Env {
	if e == nil {
		return New()
	}
	c := &Env{decls: slices.Clone(e.decls), known: maps.Clone(e.known)}
	if e.outer != nil {
		c.outer = e.outer.Copy()
	}
	return c
}

// Recursor is the name of a family's recursor.
func Recursor(family string) string { return family + ".rec" }

// Known tells whether there is a constant of that name.
func (e *Env) Known(name string) bool { return e.find(name).kind != unknown }

// Decls are the declarations that have been added, in order.
func (e *Env) Decls() []api.Decl {
	if e == nil {
		return nil
	}
	ds := e.outer.Decls()
	for _, d := range e.decls {
		ds = append(ds, copiedDecl(d))
	}
	return ds
}

// Type is a constant's parameters and type; false: there is none of that name.
func (e *Env) Type(name string) ([]string, api.Term, bool) {
	c := e.find(name)
	if c.kind == unknown {
		return nil, api.Term{}, false
	}
	return slices.Clone(c.params), copied(c.typ), true
}

// Put adds a declaration without looking at it; with a family its constructors and its recursor, of that type.
func (e *Env) Put(d api.Decl, recParams []string, recType api.Term) {
	if e == nil {
		return
	}
	if e.known == nil {
		e.known = map[string]constant{}
	}
	d = copiedDecl(d)
	e.decls = append(e.decls, d)
	c := constant{kind: axiom, params: d.Params, typ: d.Type}
	switch d.Kind {
	case api.Def:
		c.kind, c.value = definition, &d.Value
	case api.Inductive:
		c.kind = inductive
	}
	e.known[d.Name] = c
	if d.Kind == api.Inductive {
		e.putParts(d, constant{kind: recursor, params: slices.Clone(recParams), typ: copied(recType)})
	}
}

// putParts adds a family's constructors and its recursor.
func (e *Env) putParts(d api.Decl, rec constant) {
	rec.family = familyOf(d)
	for i, c := range d.Ctors {
		e.known[c.Name] = constant{kind: constructor, params: d.Params, typ: c.Type, family: rec.family, number: i}
	}
	e.known[Recursor(d.Name)] = rec
}

// find is what is known of a name; of kind unknown, if nothing is.
func (e *Env) find(name string) constant {
	for ; e != nil; e = e.outer {
		if c, ok := e.known[name]; ok {
			return c
		}
	}
	return constant{}
}

// copiedDecl shares no list with the declaration.
func copiedDecl(d api.Decl) api.Decl {
	d.Params = slices.Clone(d.Params)
	d.Type, d.Value = copied(d.Type), copied(d.Value)
	d.Ctors = slices.Clone(d.Ctors)
	for i, c := range d.Ctors {
		d.Ctors[i].Type = copied(c.Type)
	}
	return d
}

// copied shares no list with the term.
func copied(t api.Term) api.Term { return term.Lift(t, 0, 0) }
