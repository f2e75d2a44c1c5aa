package elab

import (
	"math/rand"
	"slices"
	"strconv"
	"strings"
	"testing"

	"provekernel/api"
	"provekernel/file"
	"provekernel/kernel"
	"provekernel/reduce"
	"provekernel/remake"
	"provekernel/syntax"
	"provekernel/tree"
)

// speller writes declarations of the core in the language: without holes, with @ and levels at all constants, with types at all
// binders.
type speller struct {
	*rand.Rand
	env   *reduce.Env
	names []string // of the binders around, the outermost first
	fails bool     // something cannot be written
}

// bound writes what stands under one more binder: its name, and that.
func (s *speller) bound(t *api.Term) (string, api.Expr) {
	name := "v" + strconv.Itoa(len(s.names))
	if s.Intn(3) == 0 {
		name = "w" // that of one around it may be the same, and is not meant then
	}
	s.names = append(s.names, name)
	e := s.expr(t)
	s.names = s.names[:len(s.names)-1]
	return name, e
}

// variable is the name of one; it cannot be told where another one of that name stands within.
func (s *speller) variable(n int) api.Expr {
	if n >= len(s.names) {
		s.fails = true
		return api.Expr{Kind: api.XHole}
	}
	place := len(s.names) - 1 - n
	if slices.Contains(s.names[place+1:], s.names[place]) {
		s.fails = true
	}
	return api.Expr{Kind: api.XName, Name: s.names[place], Explicit: s.Intn(10) == 0}
}

// expr writes a term.
func (s *speller) expr(t *api.Term) api.Expr {
	switch t.Kind {
	case api.Var:
		return s.variable(t.N)
	case api.Sort:
		return api.Expr{Kind: api.XSort, Levels: t.Levels}
	case api.Const:
		if params, _, _ := s.env.Type(t.Name); len(t.Levels) == 0 && len(params) > 0 {
			s.fails = true // that it has no levels cannot be told
		}
		return api.Expr{Kind: api.XName, Name: t.Name, Explicit: true, Given: len(t.Levels) > 0, Levels: t.Levels}
	case api.App:
		return api.Expr{Kind: api.XApply, Args: []api.Expr{s.expr(&t.Args[0]), s.expr(&t.Args[1])}}
	case api.Let:
		typ, value := s.expr(&t.Args[0]), s.expr(&t.Args[1])
		name, body := s.bound(&t.Args[2])
		return api.Expr{Kind: api.XLet, Name: name, Args: []api.Expr{typ, value, body}}
	}
	typ := s.expr(&t.Args[0])
	name, body := s.bound(&t.Args[1])
	e := api.Expr{Kind: api.XFun, Name: name, Implicit: s.Intn(4) == 0, Args: []api.Expr{typ, body}}
	if t.Kind == api.Pi {
		e.Kind = api.XForall
		if var0 := (&remake.Budget{Left: 1 << 30}).HasVariable(&t.Args[1], 0); !var0 && s.Intn(2) == 0 {
			e.Name, e.Implicit = "", false
			s.names = append(s.names, "")
			e.Args[1] = s.expr(&t.Args[1])
			s.names = s.names[:len(s.names)-1]
		}
	}
	return e
}

// binders takes so many pi off a type, and writes them as binders: the rest.
func (s *speller) binders(t *api.Term, n int) ([]api.Binder, *api.Term) {
	var bs []api.Binder
	for range n {
		name := "b" + strconv.Itoa(len(s.names))
		bs = append(bs, api.Binder{Name: name, Implicit: s.Intn(3) == 0, Type: s.expr(&t.Args[0])})
		s.names = append(s.names, name)
		t = &t.Args[1]
	}
	return bs, t
}

// begins tells with how many binders of that kind, of the same types, two terms begin.
func begins(a, b *api.Term, kind int) int {
	n := 0
	for a.Kind == api.Pi && b.Kind == kind && tree.Same(&a.Args[0], &b.Args[0]) {
		a, b = &a.Args[1], &b.Args[1]
		n++
	}
	return n
}

// stripped is what stands behind so many binders.
func stripped(t *api.Term, n int) *api.Term {
	for range n {
		t = &t.Args[1]
	}
	return t
}

// command writes a declaration; false: it cannot be written.
func (s *speller) command(d api.Decl) (api.Command, bool) {
	s.names, s.fails = nil, false
	c := api.Command{Kind: api.CAxiom, Name: d.Name, Params: d.Params}
	n := begins(&d.Type, &d.Type, api.Pi)
	switch d.Kind {
	case api.Def:
		c.Kind = []int{api.CDef, api.CTheorem}[s.Intn(2)]
		n = begins(&d.Type, &d.Value, api.Lam)
	case api.Inductive:
		c.Kind = api.CInductive
		for i := range d.Ctors {
			n = min(n, begins(&d.Type, &d.Ctors[i].Type, api.Pi))
		}
		if d.Arity > n {
			return c, false
		}
		n = d.Arity
	}
	if d.Kind != api.Inductive {
		n = s.Intn(n + 1)
	}
	var typ *api.Term
	c.Binders, typ = s.binders(&d.Type, n)
	c.Type = s.expr(typ)
	if d.Kind == api.Def {
		c.Value = s.expr(stripped(&d.Value, n))
	}
	for i := range d.Ctors {
		c.Ctors = append(c.Ctors, api.CtorText{Name: d.Ctors[i].Name, Type: s.expr(stripped(&d.Ctors[i].Type, n))})
	}
	return c, !s.fails
}

// other is a text of the core with something else in the place of one of its parts.
func other(r *rand.Rand, text string) string {
	terms := []string{"(sort 0)", "(sort (s 0))", "(sort u)", "(const Nat)", "(const zero)", "(const one)", "(const succ)", "(app (const succ) #0)", "(app #0 #1)", "(pi (const Nat) (const Nat))", "(app (const P) #0)", "(const id (s 0))", "(const id)", "(const nothing)",
		"(app (const List u) #0)", "(app (app (const add) (const one)) (const one))", "(lam (const Nat) #0)", "(let (const Nat) (const one) #0)", "(sort (s u))", "#0", "#1", "#2", "#3", "(app (const Not) (const False))", "(app (app (const mul) (const one)) (app (app (const add) (const one)) (const one)))"}
	levels := []string{"0", "u", "v", "(s 0)", "(s u)", "(max u v)", "(imax u v)", "(imax v 0)"}
	tokens := strings.Fields(strings.ReplaceAll(strings.ReplaceAll(text, "(", " ( "), ")", " ) "))
	from := 3 + r.Intn(len(tokens)-3)
	behind := from + 1
	put := tokens[from]
	next := tokens[min(behind, len(tokens)-1)]
	switch {
	case put == "(" && strings.Contains(" sort const app lam pi let ", " "+next+" "):
		put = terms[r.Intn(len(terms))]
	case put == "(" && strings.Contains(" s max imax ", " "+next+" ") || put == "u" || put == "v":
		put = levels[r.Intn(len(levels))]
	case put[0] == '#':
		return strings.Join(slices.Replace(tokens, from, behind, "#"+strconv.Itoa(r.Intn(5))), " ")
	default:
		return text
	}
	if tokens[from] == "(" {
		for deep := 1; deep > 0; behind++ {
			deep += strings.Count(tokens[behind], "(") - strings.Count(tokens[behind], ")")
		}
	}
	return strings.Join(slices.Replace(tokens, from, behind, put), " ")
}

// both: what has been added in the language, and in the core.
type both struct {
	state *State
	env   *reduce.Env
}

// add adds a declaration to both, as a text and as it is, with that fuel in the core: what the kernel says, and what is asked of
// the language held against it.
func (b *both) add(t *testing.T, d api.Decl, text string, fuel int) string {
	t.Helper()
	c := parsed(t, text)[0]
	want := kernel.Add(b.env, d, fuel)
	got := b.state.Run(c, 30*fuel+1000)
	code, _ := api.Code(want)
	gotCode, at := api.Code(got)
	switch {
	case code == api.FTired && got == nil:
		if err := kernel.Add(b.env, d, 30*fuel+1000); err != nil {
			t.Errorf("%s with %d steps is added, the kernel says %s", text, 30*fuel+1000, shown(err, 0))
		}
	case code == api.FTired:
	case code != 0 && gotCode == api.FName:
		// names are told apart ahead of all that the kernel says
		if name, known := nameAt(text, at); known || b.env.Known(name) {
			t.Errorf("%s: %s, where %s stands", text, shown(got, 0), name)
		}
	case gotCode != code:
		t.Errorf("%s with %d steps: %s, the kernel says %s", text, 30*fuel+1000, shown(got, 0), shown(want, 0))
	case at != 0:
		t.Errorf("%s: %s", text, shown(got, 0))
	}
	return shown(want, 0)
}

// nameAt is the name that stands in a text behind an @; true: there is none.
func nameAt(text string, at int) (string, bool) {
	rest, ok := strings.CutPrefix(text[at:], "@")
	end := strings.IndexAny(rest, " ().{},:")
	return rest[:max(end, 0)], !ok || end <= 0
}

// Declarations that are right, and such in which something is another, written without holes: each becomes just the core term
// that it spells, with 30 n + 1000 steps where the kernel needs n; what the kernel refuses is refused, with its code.
func TestSpelt(t *testing.T) {
	lines := declarations(libraryState(t).Env())
	said := map[string]int{}
	for seed := range int64(120) {
		r := rand.New(rand.NewSource(seed))
		b := &both{New(), reduce.New()}
		for _, line := range lines {
			for r.Intn(4) == 0 {
				line = other(r, line)
			}
			d, ok := declarationOf(line)
			if !ok {
				continue
			}
			s := &speller{Rand: r, env: b.env}
			c, ok := s.command(d)
			if !ok {
				continue
			}
			if d.Kind == api.Def && r.Intn(4) == 0 {
				c.Value = api.Expr{Kind: api.XIs, Args: []api.Expr{c.Value, c.Type}}
			}
			fuel := []int{0, 1, 5, 20, 200, 3000}[r.Intn(6)]
			text := syntax.Print([]api.Command{c})
			said[strings.Fields(b.add(t, d, text, fuel))[0]]++
		}
		if got, want := kernel.Export(b.state.Env()), kernel.Export(b.env); got != want {
			t.Fatalf("seed %d: there is\n%s\nwant\n%s", seed, got, want)
		}
	}
	for _, what := range []string{"right", "FName", "FParam", "FFun", "FArg", "FSort", "FForm", "FTired"} {
		if said[what] == 0 {
			t.Errorf("%s was never said: %v", what, said)
		}
	}
}

// The same with ascriptions at values and types: they are looked at, and leave no trace.
func TestSpeltAscriptions(t *testing.T) {
	lines := declarations(libraryState(t).Env())
	for seed := range int64(60) {
		r := rand.New(rand.NewSource(seed))
		b := &both{New(), reduce.New()}
		for _, line := range lines {
			d, _ := declarationOf(line)
			s := &speller{Rand: r, env: b.env}
			c, ok := s.command(d)
			if !ok {
				continue
			}
			if d.Kind == api.Def {
				c.Value = api.Expr{Kind: api.XIs, Args: []api.Expr{c.Value, c.Type}}
			}
			if r.Intn(2) == 0 {
				c.Binders = slices.Clone(c.Binders)
				for i := range c.Binders {
					c.Binders[i].Type = api.Expr{Kind: api.XIs, Args: []api.Expr{c.Binders[i].Type, {Kind: api.XHole}}}
				}
			}
			b.add(t, d, syntax.Print([]api.Command{c}), []int{1, 20, 200, 3000}[r.Intn(4)])
		}
		if got, want := kernel.Export(b.state.Env()), kernel.Export(b.env); got != want {
			t.Fatalf("seed %d: there is\n%s\nwant\n%s", seed, got, want)
		}
	}
}

// Levels, numbers and names to the limits of what the language can write.
func TestSpeltLimits(t *testing.T) {
	l := api.Level{}
	for range 99 {
		l = remake.Successor(l)
	}
	name := strings.Repeat("N", 35) + "_'9"
	ds, err := file.Parse("(axiom " + name + " (u " + name + ") (sort (imax u " + name + ")))")
	if err != nil {
		t.Fatal(err)
	}
	sort := ds[0]
	sort.Name, sort.Type = "high99", *remake.Sort(l)
	for _, d := range append(ds, sort) {
		b := &both{New(), reduce.New()}
		c, _ := (&speller{Rand: rand.New(rand.NewSource(1)), env: b.env}).command(d)
		if said := b.add(t, d, syntax.Print([]api.Command{c}), 0); said != "right" || kernel.Export(b.state.Env()) != kernel.Export(b.env) {
			t.Errorf("%s: %s", d.Name, said)
		}
	}
}
