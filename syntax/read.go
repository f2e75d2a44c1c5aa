package syntax

import "provekernel/api"

// mostCopied: how many parts of types are copied for the names of binders. Binders with several names that stand in one
// another's types would need more copies than any memory holds: beyond this many their types share what they are made of.
const mostCopied = 1 << 22

// reader is a scanner that knows the grammar.
type reader struct {
	scanner
	tactics map[string]int // the kinds, by their words
	copies  int            // how many parts may still be copied
}

// newReader is one of a text of which nothing is read yet.
func newReader(text string) *reader {
	return &reader{scanner: newScanner(text), tactics: tacticKinds(), copies: mostCopied}
}

// commandWords: what a command begins with, by kind.
var commandWords = [...]string{api.CAxiom: "axiom", api.CDef: "def", api.CTheorem: "theorem", api.CInductive: "inductive"}

// file reads the whole text.
func (r *reader) file() []api.Command {
	var cs []api.Command
	for r.ahead.kind != end {
		cs = append(cs, r.command())
	}
	return cs
}

func (r *reader) command() api.Command {
	c := api.Command{At: r.ahead.at}
	c.Kind = r.commandKind()
	c.Name = r.name().text
	c.Params = r.params()
	for _, b := range r.bounds() {
		c.Binders = append(c.Binders, b.Binder)
	}
	r.expect(":")
	c.Type = *r.expr()
	r.behindType(&c)
	r.expect(".")
	return c
}

// commandKind takes the word that a command begins with.
func (r *reader) commandKind() int {
	for kind, word := range commandWords {
		if r.took(word) {
			return kind
		}
	}
	r.refuse()
	return 0
}

// behindType reads what follows a command's type, up to the dot.
func (r *reader) behindType(c *api.Command) {
	switch {
	case c.Kind == api.CInductive:
		c.Ctors = r.ctors()
	case c.Kind == api.CTheorem && r.took("by"):
		c.ByTactics = true
		c.Tactics = r.proof()
	case c.Kind != api.CAxiom:
		r.expect(":=")
		c.Value = *r.expr()
	}
}

// params reads the parameters of a command, if it has any.
func (r *reader) params() []string {
	if !r.took(".{") {
		return nil
	}
	params := []string{r.name().text}
	for r.took(",") {
		params = append(params, r.name().text)
	}
	r.expect("}")
	return params
}

func (r *reader) ctors() []api.CtorText {
	var cs []api.CtorText
	for r.took("|") {
		called := r.name()
		r.expect(":")
		cs = append(cs, api.CtorText{Name: called.text, At: called.at, Type: *r.expr()})
	}
	return cs
}

// names reads as many names as stand there, at least one.
func (r *reader) names() []token {
	ts := []token{r.name()}
	for r.ahead.kind == name {
		ts = append(ts, r.take())
	}
	return ts
}

// bound is a binder, and the place of its name.
type bound struct {
	api.Binder
	at int
}

// bounds reads the binders of a command or a forall.
func (r *reader) bounds() []bound {
	var bs []bound
	for r.atBracket() {
		bs = append(bs, r.inBrackets()...)
	}
	return bs
}

// funs reads the binders of a fun, of which some have no type.
func (r *reader) funs() []bound {
	var bs []bound
	for r.ahead.kind == name || r.atBracket() {
		if r.atBracket() {
			bs = append(bs, r.inBrackets()...)
			continue
		}
		t := r.take()
		hole := api.Expr{Kind: api.XHole, At: t.at}
		bs = append(bs, bound{api.Binder{Name: t.text, Type: hole}, t.at})
	}
	return bs
}

// atBracket tells whether a bracket stands next with which a binder begins.
func (r *reader) atBracket() bool { return r.ahead.is("(") || r.ahead.is("{") }

// inBrackets reads the binders of one pair of brackets: each of the names is one.
func (r *reader) inBrackets() []bound {
	closing := ")"
	implicit := r.ahead.is("{")
	if implicit {
		closing = "}"
	}
	r.take()
	names := r.names()
	r.expect(":")
	typ := r.expr()
	r.expect(closing)
	var bs []bound
	for i, t := range names {
		b := api.Binder{Name: t.text, Implicit: implicit, Type: *typ}
		if i > 0 {
			b.Type = r.copied(*typ)
		}
		bs = append(bs, bound{b, t.at})
	}
	return bs
}

// copied is an expression again, in memory of its own as far as there may be copies.
func (r *reader) copied(e api.Expr) api.Expr {
	if r.copies <= 0 {
		return e
	}
	r.copies--
	e.Levels = r.copiedLevels(e.Levels)
	e.Args = append([]api.Expr(nil), e.Args...)
	for i := range e.Args {
		e.Args[i] = r.copied(e.Args[i])
	}
	return e
}

func (r *reader) copiedLevels(ls []api.Level) []api.Level {
	r.copies -= len(ls)
	ls = append([]api.Level(nil), ls...)
	for i := range ls {
		ls[i].Args = r.copiedLevels(ls[i].Args)
	}
	return ls
}
