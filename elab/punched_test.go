package elab

import (
	"math/rand"
	"slices"
	"testing"

	"provekernel/api"
	"provekernel/kernel"
	"provekernel/reduce"
	"provekernel/small"
	"provekernel/syntax"
	"provekernel/tree"
)

// signs of constants, as the chapter has them: by their commands.
type signs map[string][]bool

// add tells those of a command.
func (s signs) add(c *api.Command) {
	var own, all []bool
	for _, b := range c.Binders {
		own, all = append(own, b.Implicit), append(all, true)
	}
	forall := func(e api.Expr) []bool {
		var found []bool
		for e.Kind == api.XForall {
			found = append(found, e.Implicit)
			e = e.Args[1]
		}
		return found
	}
	s[c.Name] = own
	if c.Kind != api.CInductive {
		s[c.Name] = slices.Concat(own, forall(c.Type))
	}
	for _, ctor := range c.Ctors {
		s[ctor.Name] = slices.Concat(all, forall(ctor.Type))
	}
}

// says tells whether a term is what an expression says, with its holes and implicit arguments filled in and nothing else.
func (s signs) says(e *api.Expr, t *api.Term, names []string) bool {
	binder := func(kind int) bool {
		return t.Kind == kind && s.says(&e.Args[0], &t.Args[0], names) && s.says(&e.Args[1], &t.Args[1], append(names[:len(names):len(names)], e.Name))
	}
	switch e.Kind {
	case api.XHole:
		return true
	case api.XIs:
		return s.says(&e.Args[0], t, names)
	case api.XSort:
		return t.Kind == api.Sort && tree.SameLevel(t.Levels[0], e.Levels[0])
	case api.XFun:
		return binder(api.Lam)
	case api.XForall:
		return binder(api.Pi)
	case api.XLet:
		return t.Kind == api.Let && s.says(&e.Args[0], &t.Args[0], names) && s.says(&e.Args[1], &t.Args[1], names) && s.says(&e.Args[2], &t.Args[2], append(names[:len(names):len(names)], e.Name))
	}
	return s.application(e, t, names)
}

// application is says of a name, or of what is applied.
func (s signs) application(e *api.Expr, t *api.Term, names []string) bool {
	var args []*api.Expr
	for ; e.Kind == api.XApply; e = &e.Args[0] {
		args = append([]*api.Expr{&e.Args[1]}, args...)
	}
	isName := e.Kind == api.XName
	place := -1
	if isName && !e.Infix {
		for i, name := range names {
			if name == e.Name {
				place = i
			}
		}
	}
	var all []*api.Expr // nil: one that is filled in
	if isName && place < 0 && !e.Explicit {
		for _, implicit := range s[e.Name] {
			if !implicit && len(args) == 0 {
				break
			}
			if implicit {
				all = append(all, nil)
			} else {
				all, args = append(all, args[0]), args[1:]
			}
		}
	}
	all = append(all, args...)
	for _, arg := range slices.Backward(all) {
		if t.Kind != api.App || arg != nil && !s.says(arg, &t.Args[1], names) {
			return false
		}
		t = &t.Args[0]
	}
	switch {
	case !isName:
		return s.says(e, t, names)
	case place >= 0:
		return t.Kind == api.Var && t.N == len(names)-1-place
	}
	return t.Kind == api.Const && t.Name == e.Name && (!e.Given || slices.EqualFunc(t.Levels, e.Levels, tree.SameLevel))
}

// command tells whether a declaration is what a command says.
func (s signs) command(c *api.Command, d *api.Decl) bool {
	var names []string
	for _, b := range c.Binders {
		names = append(names, b.Name)
	}
	behind := func(t *api.Term, kind int, e *api.Expr) bool {
		for i, b := range c.Binders {
			if t.Kind != kind || !s.says(&b.Type, &t.Args[0], names[:i]) {
				return false
			}
			t = &t.Args[1]
		}
		return s.says(e, t, names)
	}
	if !behind(&d.Type, api.Pi, &c.Type) || d.Kind == api.Def && !behind(&d.Value, api.Lam, &c.Value) || len(c.Ctors) != len(d.Ctors) {
		return false
	}
	for i := range c.Ctors {
		if !behind(&d.Ctors[i].Type, api.Pi, &c.Ctors[i].Type) {
			return false
		}
	}
	return d.Name == c.Name && slices.Equal(d.Params, c.Params) && (d.Kind == api.Inductive) == (c.Kind == api.CInductive)
}

// puncher leaves out what stands in an expression.
type puncher struct {
	*rand.Rand
	signs  signs
	levels int // how many of 100 levels are left out,
	args   int // .. implicit arguments,
	types  int // .. types of variables,
	any    int // .. anything
}

func (p *puncher) chance(percent int) bool { return p.Intn(100) < percent }

// expr is an expression with something left out.
func (p *puncher) expr(e api.Expr) api.Expr {
	if p.chance(p.any) {
		return api.Expr{Kind: api.XHole}
	}
	switch e.Kind {
	case api.XName:
		return p.application(e, nil)
	case api.XApply:
		var args []api.Expr
		for ; e.Kind == api.XApply; e = e.Args[0] {
			args = append([]api.Expr{p.expr(e.Args[1])}, args...)
		}
		return p.application(e, args)
	}
	e.Args = slices.Clone(e.Args)
	for i := range e.Args {
		if i == 0 && p.chance(p.types) && (e.Kind == api.XFun || e.Kind == api.XLet) {
			e.Args[i] = api.Expr{Kind: api.XHole}
		} else {
			e.Args[i] = p.expr(e.Args[i])
		}
	}
	return e
}

// application is a head and its arguments with something left out.
func (p *puncher) application(head api.Expr, args []api.Expr) api.Expr {
	if head.Kind != api.XName {
		head = p.expr(head)
	}
	if head.Given && p.chance(p.levels) {
		head.Given, head.Levels = false, nil
	}
	implicit := p.signs[head.Name]
	whole := len(args) >= len(implicit) || !implicit[len(args)]
	if head.Explicit && head.Kind == api.XName && whole && p.chance(p.args) {
		head.Explicit = false
		var left []api.Expr
		for i, arg := range args {
			if i >= len(implicit) || !implicit[i] {
				left = append(left, arg)
			}
		}
		args = left
	}
	for _, arg := range args {
		head = api.Expr{Kind: api.XApply, Args: []api.Expr{head, arg}}
	}
	return head
}

// command is a command with something left out.
func (p *puncher) command(c api.Command) api.Command {
	c.Binders, c.Ctors = slices.Clone(c.Binders), slices.Clone(c.Ctors)
	for i := range c.Binders {
		c.Binders[i].Type = p.expr(c.Binders[i].Type)
	}
	c.Type = p.expr(c.Type)
	if c.Kind == api.CDef || c.Kind == api.CTheorem {
		c.Value = p.expr(c.Value)
	}
	for i := range c.Ctors {
		c.Ctors[i].Type = p.expr(c.Ctors[i].Type)
	}
	return c
}

// sign makes implicit in a command what is so in a state: what can be found, for the most part.
func sign(c *api.Command, s *State) {
	put := func(name string, bs []api.Binder, e *api.Expr) {
		implicit := s.known[name].implicit
		for i := range bs {
			bs[i].Implicit = implicit[i]
		}
		implicit = implicit[len(bs):]
		for ; e.Kind == api.XForall && len(implicit) > 0; e = &e.Args[1] {
			if e.Name == "" && implicit[0] {
				e.Name = "x"
			}
			e.Implicit, implicit = implicit[0], implicit[1:]
		}
		for ; e.Kind == api.XForall; e = &e.Args[1] {
			e.Implicit = false
		}
	}
	put(c.Name, c.Binders, &c.Type)
	for i := range c.Ctors {
		put(c.Ctors[i].Name, slices.Clone(c.Binders), &c.Ctors[i].Type)
	}
}

// Declarations of which something is left out: what is added is what the text says, and is right. Most that people leave out is
// found again; what is not is told as a fault at a place of the command.
func TestPunched(t *testing.T) {
	original := libraryState(t)
	lines := declarations(original.Env())
	for _, c := range []struct{ levels, args, types, any, seeds, least int }{
		{100, 0, 0, 0, 5, 100}, {0, 100, 0, 0, 5, 100}, {0, 0, 100, 0, 5, 100}, {100, 100, 100, 0, 10, 100}, {50, 50, 50, 0, 20, 98}, {30, 30, 30, 3, 40, 70}, {100, 100, 100, 10, 40, 35},
	} {
		tried, found := 0, 0
		for seed := range int64(c.seeds) {
			r := rand.New(rand.NewSource(seed))
			p := &puncher{r, signs{}, c.levels, c.args, c.types, c.any}
			b := &both{New(), reduce.New()}
			for _, line := range lines {
				d, _ := declarationOf(line)
				whole, ok := api.Command{}, false
				for !ok {
					whole, ok = (&speller{Rand: r, env: b.env}).command(d)
				}
				sign(&whole, original)
				p.signs.add(&whole)
				text := syntax.Print([]api.Command{p.command(whole)})
				tried++
				if p.run(t, b, text) {
					found++
				} else if err := b.state.Run(parsed(t, syntax.Print([]api.Command{whole}))[0], 3000); err != nil {
					delete(p.signs, whole.Name)
				}
				kernel.Add(b.env, d, 3000)
			}
			export := kernel.Export(b.state.Env())
			if n, err := small.Check(export, 100000); err != nil {
				t.Fatalf("of\n%s\nonly %d are right: %s", export, n, shown(err, 0))
			}
		}
		if found*100 < tried*c.least {
			t.Errorf("%v: only %d of %d are found", c, found, tried)
		}
	}
}

// run runs a text: whether it has been added.
func (p *puncher) run(t *testing.T, b *both, text string) bool {
	t.Helper()
	c := parsed(t, text)[0]
	if err := b.state.Run(c, 3000); err != nil {
		if code, at := api.Code(err); code <= 0 || at < 0 || at >= len(text) {
			t.Errorf("%s: %s", text, shown(err, 0))
		}
		return false
	}
	ds := b.state.Env().Decls()
	if last := &ds[len(ds)-1]; !p.signs.command(&c, last) {
		t.Errorf("%s becomes something else:\n%s", text, kernel.Export(b.state.Env()))
	}
	return true
}
