package syntax

import (
	"slices"

	"provekernel/api"
)

// equality: the constant that the sign = means.
const equality = "Eq"

// What is read is handed on by its address: a text may nest as deep as it is long, and values would take up much of the stack.

func (r *reader) expr() *api.Expr {
	switch {
	case r.took("fun"):
		return r.under(api.XFun, r.funs(), "=>")
	case r.took("forall"):
		return r.under(api.XForall, r.bounds(), ",")
	case r.took("let"):
		return r.let()
	}
	return r.arrow()
}

// made is an expression of these parts.
func made(kind, at int, name string, parts ...*api.Expr) *api.Expr {
	e := &api.Expr{Kind: kind, At: at, Name: name}
	e.Args = slices.Grow(e.Args, len(parts))
	for _, part := range parts {
		e.Args = append(e.Args, *part)
	}
	return e
}

// under reads what stands under binders, of which there must be one at least, behind that sign.
func (r *reader) under(kind int, bs []bound, sign string) *api.Expr {
	if len(bs) == 0 {
		r.refuse()
	}
	r.expect(sign)
	e := r.expr()
	for i := len(bs) - 1; i >= 0; i-- {
		b := &bs[i]
		e = made(kind, b.at, b.Name, &b.Type, e)
		e.Implicit = b.Implicit
	}
	return e
}

// let reads what follows the word.
func (r *reader) let() *api.Expr {
	called := r.name()
	r.expect(":")
	typ := r.expr()
	r.expect(":=")
	value := r.expr()
	r.expect("in")
	return made(api.XLet, called.at, called.text, typ, value, r.expr())
}

func (r *reader) arrow() *api.Expr {
	left := r.equal()
	if !r.ahead.is("->") {
		return left
	}
	sign := r.take()
	return made(api.XForall, sign.at, "", left, r.expr())
}

func (r *reader) equal() *api.Expr {
	left := r.apply()
	if !r.ahead.is("=") {
		return left
	}
	sign := r.take()
	return equation(sign.at, left, r.apply())
}

// equation is the sign = that stands there between two expressions.
func equation(at int, left, right *api.Expr) *api.Expr {
	eq := made(api.XName, at, equality)
	eq.Infix = true
	return applied(applied(eq, left), right)
}

func (r *reader) apply() *api.Expr {
	e := r.atom()
	for r.beforeAtom() {
		e = applied(e, r.atom())
	}
	return e
}

func applied(f, a *api.Expr) *api.Expr { return made(api.XApply, f.At, "", f, a) }

// beforeAtom tells whether an atom begins with the next token.
func (r *reader) beforeAtom() bool {
	switch r.ahead.text {
	case "@", "_", "Prop", "Type", "Sort", "(":
		return true
	}
	return r.ahead.kind == name
}

func (r *reader) atom() *api.Expr {
	at := r.ahead.at
	switch {
	case r.took("("):
		return r.bracketed(at)
	case r.took("_"):
		return made(api.XHole, at, "")
	case r.ahead.kind == name || r.ahead.is("@"):
		return r.called(at)
	}
	return r.sort(at)
}

// bracketed reads what follows an opening bracket that stands there.
func (r *reader) bracketed(at int) *api.Expr {
	e := r.expr()
	if r.took(":") {
		e = made(api.XIs, at, "", e, r.expr())
	}
	r.expect(")")
	return e
}

// called reads a name, with what may stand ahead of it and behind.
func (r *reader) called(at int) *api.Expr {
	explicit := r.took("@")
	e := made(api.XName, at, r.name().text)
	e.Explicit = explicit
	if r.took(".{") {
		e.Given = true
		e.Levels = r.levels()
	}
	return e
}

func (r *reader) sort(at int) *api.Expr {
	e := made(api.XSort, at, "")
	e.Levels = []api.Level{r.universe()}
	return e
}
