package elab

import (
	"provekernel/api"
	"provekernel/fault"
	"provekernel/kernel"
	"provekernel/remake"
	"provekernel/tree"
)

// draft of a command: the types of its binders, its type, then its value or its constructors' types, each under the binders.
type draft struct {
	binders []*node
	typ     *node
	rest    []*node
}

// declaration is what a command becomes. What cannot be found where the types that are told are held against the text ahead of the
// arguments' may be found the other way round; the fault is that of the first way.
func (s *State) declaration(c *api.Command, fuel int) (api.Decl, error) {
	d, err := s.attempt(c, fuel, false)
	if _, at := api.Code(err); at > c.At && mayFitOtherwise(err) {
		if other, again := s.attempt(c, fuel, true); again == nil {
			return other, nil
		}
	}
	return d, err
}

// attempt is what a command becomes one way.
func (s *State) attempt(c *api.Command, fuel int, argsFirst bool) (api.Decl, error) {
	return fault.Caught(func() api.Decl {
		h := &holes{}
		d := &drafter{holes: h, find: s.find, names: names{}}
		made := d.command(c)
		j := newJudge(s, h, max(fuel, 0))
		j.argsFirst = argsFirst
		if isByTactics(c) {
			return j.prove(c, made, d)
		}
		open := len(h.terms) > 0 || len(h.levels) > 0
		if d.claims > 0 && !open {
			s.tryOut(j.declare(c, made), fuel)
		}
		if d.claims > 0 || open {
			j.settleAll(c, made, d)
		}
		return j.declare(c, made)
	})
}

// tryOut throws what the kernel says of a declaration, where its word goes ahead of that on ascriptions, of which it sees nothing.
func (s *State) tryOut(d api.Decl, fuel int) {
	if code, _ := api.Code(kernel.Look(s.env, d, fuel)); code != 0 {
		fault.Throw(code)
	}
}

// isByTactics tells whether a command is a theorem whose value tactics make.
func isByTactics(c *api.Command) bool { return c.Kind == api.CTheorem && c.ByTactics }

// command makes the expressions of a command nodes, but for those that tactics have: what these mean hangs on the goals.
func (d *drafter) command(c *api.Command) draft {
	if c.Kind < api.CAxiom || c.Kind > api.CInductive {
		fault.ThrowAt(api.FText, c.At)
	}
	var made draft
	for i := range c.Binders {
		made.binders = append(made.binders, d.expr(&c.Binders[i].Type))
		d.bind(c.Binders[i].Name)
	}
	made.typ = d.expr(&c.Type)
	switch {
	case c.Kind == api.CInductive:
		d.family = c
		for i := range c.Ctors {
			made.rest = append(made.rest, d.expr(&c.Ctors[i].Type))
		}
	case c.Kind != api.CAxiom && !isByTactics(c):
		made.rest = append(made.rest, d.expr(&c.Value))
	}
	return made
}

// settleAll finds all that is left open in a command. FStuck: something cannot be found. Of what an ascription says the kernel
// sees nothing: it must not wait in the end.
func (j *judge) settleAll(c *api.Command, made draft, d *drafter) {
	text := j.mark()
	j.look(c, made)
	at, open := j.leftOpen(mark{}, text, d.claims > 0)
	if open {
		j.guessParams(d.params)
		j.guess()
		at, open = j.leftOpen(mark{}, text, d.claims > 0)
	}
	if open {
		fault.ThrowAt(api.FStuck, at)
	}
}

// leftOpen is the place of the first of the holes and levels from one mark to another that has not been found, or of what waits, if
// nothing may; false: all has been found.
func (j *judge) leftOpen(from, to mark, claims bool) (at int, ok bool) {
	for _, h := range j.terms[from.terms:to.terms] {
		if h.value == nil || j.hasHoles(j.solved(h.value)) {
			return h.at, true
		}
	}
	for _, l := range j.levels[from.levels:to.levels] {
		if l.value == nil || j.levelHasHoles(j.solvedLevel(l.value)) {
			return l.at, true
		}
	}
	if claims && len(j.waiting) > 0 {
		return j.waiting[0].at, true
	}
	return 0, false
}

// lookHead looks at the binders and the type of a command: the binders' variables.
func (j *judge) lookHead(made draft) scope {
	var s scope
	for _, n := range made.binders {
		j.sort(n, s)
		s = s.with(j.newLocal(j.term(n, s)))
	}
	j.sort(made.typ, s)
	return s
}

// look looks at all the parts of a command.
func (j *judge) look(c *api.Command, made draft) {
	s := j.lookHead(made)
	if c.Kind == api.CInductive {
		typ := j.boundBy(api.Pi, j.term(made.typ, s), s)
		j.family = &api.Decl{Name: c.Name, Params: c.Params, Type: *typ}
	}
	for _, n := range made.rest {
		if c.Kind == api.CInductive {
			j.sort(n, s)
		} else {
			j.check(n, remake.Opened{Term: j.term(made.typ, s)}, s)
		}
	}
	j.settle()
}

// declare is the declaration, with all that has been found.
func (j *judge) declare(c *api.Command, made draft) api.Decl {
	d := j.typed(api.Def, c, made)
	switch c.Kind {
	case api.CAxiom:
		d.Kind = api.Axiom
	case api.CInductive:
		d.Kind, d.Arity = api.Inductive, len(made.binders)
		for i, n := range made.rest {
			d.Ctors = append(d.Ctors, api.Ctor{Name: c.Ctors[i].Name, Type: j.whole(api.Pi, made.binders, n)})
		}
	default:
		d.Value = j.whole(api.Lam, made.binders, made.rest[0])
	}
	return d
}

// typed is a declaration of that kind, without a value.
func (j *judge) typed(kind int, c *api.Command, made draft) api.Decl {
	return api.Decl{Kind: kind, Name: c.Name, Params: c.Params, Type: j.whole(api.Pi, made.binders, made.typ)}
}

// whole is the term of a node behind binders of that kind.
func (j *judge) whole(kind int, binders []*node, n *node) api.Term {
	return j.behind(kind, binders, j.final(n, len(binders)))
}

// behind is a term behind binders of that kind.
func (j *judge) behind(kind int, binders []*node, made *api.Term) api.Term {
	for i := len(binders) - 1; i >= 0; i-- {
		made = &api.Term{Kind: kind, Args: []api.Term{*j.final(binders[i], i), *made}}
	}
	j.measure(made, tree.MostParts)
	return *made
}

// measure throws FTired, if a term has more than so many parts: how many may be left is what it answers.
func (j *judge) measure(t *api.Term, left int) int {
	left--
	if left < 0 {
		fault.Throw(api.FTired)
	}
	for i := range t.Args {
		left = j.measure(&t.Args[i], left)
	}
	return left
}

// final is the term of a node under that many binders, with all that has been found.
func (j *judge) final(n *node, binders int) *api.Term {
	var none scope
	return j.solved(j.termOf(n, none, binders))
}
