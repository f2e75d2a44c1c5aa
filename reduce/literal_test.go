package reduce

import (
	"math/rand"
	"reflect"
	"testing"

	"provekernel/api"
	"provekernel/level"
	"provekernel/term"
	"provekernel/tree"
)

// literal reduces by the chapter's words, by substitution in whole terms: what the machine is held against.
type literal struct {
	decls []api.Decl
	left  int
}

// tired is thrown when the fuel is not enough; large when a term has so many parts that there is nothing to hold against.
type tired struct{}
type large struct{}

const largest = 3000

func (l *literal) step() {
	if l.left == 0 {
		panic(tired{})
	}
	l.left--
}

func (l *literal) seen(t api.Term) api.Term {
	if tree.Parts(&t) > largest {
		panic(large{})
	}
	return t
}

func (l *literal) whnf(t api.Term) api.Term {
	for {
		head, as := term.Spine(t)
		switch {
		case head.Kind == api.Lam && len(as) > 0:
			l.step()
			t = l.seen(term.Apply(term.Subst(head.Args[1], as[0]), as[1:]))
		case head.Kind == api.Let:
			l.step()
			t = l.seen(term.Apply(term.Subst(head.Args[2], head.Args[1]), as))
		case head.Kind == api.Const:
			next, ok := l.unfold(head, as)
			if !ok {
				return t
			}
			t = l.seen(next)
		default:
			return t
		}
	}
}

func (l *literal) unfold(head api.Term, as []api.Term) (api.Term, bool) {
	for _, d := range l.decls {
		switch {
		case d.Kind == api.Def && d.Name == head.Name:
			l.step()
			return term.Apply(term.Levels(d.Value, d.Params, head.Levels), as), true
		case d.Kind == api.Inductive && d.Name+".rec" == head.Name:
			return l.recur(d, head, as)
		}
	}
	return api.Term{}, false
}

func pis(t api.Term) int {
	n := 0
	for ; t.Kind == api.Pi; t = t.Args[1] {
		n++
	}
	return n
}

func (l *literal) recur(d api.Decl, rec api.Term, as []api.Term) (api.Term, bool) {
	p, k, m := d.Arity, len(d.Ctors), pis(d.Type)-d.Arity
	last := p + 1 + k + m
	if len(as) <= last {
		return api.Term{}, false
	}
	head, bs := term.Spine(l.whnf(as[last]))
	for number, c := range d.Ctors {
		if head.Kind != api.Const || head.Name != c.Name || len(bs) != pis(c.Type) {
			continue
		}
		l.step()
		made := term.Apply(as[p+1+number], bs[p:])
		made = term.Apply(made, l.hypotheses(d, c.Type, term.Apply(rec, as[:p+1+k]), as[:p], head.Levels, bs[p:]))
		return term.Apply(made, as[last+1:]), true
	}
	return api.Term{}, false
}

// hypotheses walks down a constructor's type, with what its variables stand for put in.
func (l *literal) hypotheses(d api.Decl, typ, again api.Term, params []api.Term, ls []api.Level, own []api.Term) []api.Term {
	put := term.Levels(typ, d.Params, ls)
	for _, a := range params {
		typ, put = typ.Args[1], term.Subst(put.Args[1], a)
	}
	var hs []api.Term
	for _, a := range own {
		if term.Has(typ.Args[0], d.Name) {
			hs = append(hs, hypothesisOf(put.Args[0], again, a, d.Arity))
		}
		typ, put = typ.Args[1], term.Subst(put.Args[1], a)
	}
	return hs
}

func hypothesisOf(typ, again, a api.Term, p int) api.Term {
	if typ.Kind == api.Pi {
		a = term.Apply(term.Lift(a, 1, 0), []api.Term{tree.Variable(0)})
		return api.Term{Kind: api.Lam, Args: []api.Term{typ.Args[0], hypothesisOf(typ.Args[1], term.Lift(again, 1, 0), a, p)}}
	}
	_, as := term.Spine(typ)
	return term.Apply(term.Apply(again, as[p:]), []api.Term{a})
}

func (l *literal) normal(t api.Term) api.Term {
	t = l.whnf(t)
	if t.Kind == api.Lam || t.Kind == api.Pi {
		return api.Term{Kind: t.Kind, Args: []api.Term{l.normal(t.Args[0]), l.normal(t.Args[1])}}
	}
	head, as := term.Spine(t)
	if head.Kind == api.Pi && len(as) > 0 {
		head = l.normal(head)
	}
	for i, a := range as {
		as[i] = l.normal(a)
	}
	return l.seen(term.Apply(head, as))
}

// contractedForm is a normal form without any (lam A (app f #0)) whose #0 does not stand in f.
func contractedForm(t api.Term) api.Term {
	made := term.Lift(t, 0, 0)
	for i, arg := range made.Args {
		made.Args[i] = contractedForm(arg)
	}
	if made.Kind != api.Lam || made.Args[1].Kind != api.App || !isVariable(&made.Args[1].Args[1], 0) {
		return made
	}
	f := made.Args[1].Args[0]
	if !term.Equal(term.Lift(f, 1, 0), term.Lift(f, 1, 1)) {
		return made
	}
	return term.Lift(f, -1, 0)
}

// by calls a reducer: its answer, the steps; code 0, FTired, or -1 where a term is too large.
func (l *literal) by(reduce func(t api.Term) api.Term, t api.Term, fuel int) (made api.Term, steps, code int) {
	l.left = fuel
	defer func() {
		switch thrown := recover(); thrown.(type) {
		case nil:
		case tired:
			made, steps, code = api.Term{}, 0, api.FTired
		case large:
			code = -1
		default:
			panic(thrown)
		}
	}()
	made = reduce(t)
	return made, fuel - l.left, 0
}

// maker makes terms by chance. They need not be right: what the chapter's words make of them is told all the same.
type maker struct {
	*rand.Rand
	free int
}

func (r maker) level() api.Level {
	return []api.Level{
		{},
		{Kind: api.Param, Name: "u"},
		{Kind: api.Param, Name: "v"},
		{Kind: api.Succ, Args: []api.Level{{Kind: api.Param, Name: "u"}}},
		{Kind: api.Max, Args: []api.Level{{Kind: api.Param, Name: "v"}, {Kind: api.Param, Name: "u"}}},
		{Kind: api.Max, Args: []api.Level{{Kind: api.Param, Name: "u"}, {Kind: api.Param, Name: "v"}}},
	}[r.Intn(6)]
}

// constant: one that the world knows, with as many levels as it has.
func (r maker) constant(names ...string) api.Term {
	name := names[r.Intn(len(names))]
	made := api.Term{Kind: api.Const, Name: name}
	for range map[string]int{"id": 1, "pair": 2, "P": 2, "List": 1, "nil": 1, "cons": 1, "vnil": 1, "vcons": 1, "sup": 2, "Nat.rec": 1, "Bool.rec": 1, "List.rec": 2, "Vec.rec": 2, "W.rec": 3, "False.rec": 1}[name] {
		made.Levels = append(made.Levels, r.level())
	}
	return made
}

func (r maker) several(n, size int) []api.Term {
	var made []api.Term
	for range n {
		made = append(made, r.term(size/n))
	}
	return made
}

func (r maker) term(size int) api.Term {
	if size < 2 {
		return r.leaf()
	}
	switch r.Intn(14) {
	case 0:
		return api.Term{Kind: api.Lam, Args: []api.Term{r.term(size / 4), r.under().term(size / 2)}}
	case 1:
		return api.Term{Kind: api.Pi, Args: []api.Term{r.term(size / 3), r.under().term(size / 2)}}
	case 2:
		return api.Term{Kind: api.Let, Args: []api.Term{r.term(size / 5), r.term(size / 3), r.under().term(size / 2)}}
	case 3, 4:
		return term.Apply(api.Term{Kind: api.Lam, Args: []api.Term{r.term(size / 5), r.under().term(size / 2)}}, r.several(1+r.Intn(2), size/2))
	case 5, 6:
		return term.Apply(r.constant("add", "mul", "id", "pair"), r.several(r.Intn(4), size))
	case 7, 8, 9, 10:
		return r.recursor(size)
	case 11:
		return r.built(size)
	case 12:
		return api.Term{Kind: api.Lam, Args: []api.Term{r.term(size / 4), term.Apply(r.under().term(size/2), []api.Term{tree.Variable(0)})}}
	}
	return term.Apply(r.term(size/3), r.several(1+r.Intn(2), size/2))
}

func (r maker) leaf() api.Term {
	switch r.Intn(5) {
	case 0:
		return api.Term{Kind: api.Sort, Levels: []api.Level{r.level()}}
	case 1:
		return r.constant("n", "f", "P", "zero", "succ", "unknown", "Nat", "W.rec", "one", "two", "add", "cons")
	}
	return tree.Variable(r.Intn(r.free))
}

// under is a maker for what stands under one more binder.
func (r maker) under() maker {
	r.free++
	return r
}

// recursor: one, mostly with a major of its family.
func (r maker) recursor(size int) api.Term {
	names := []string{"Nat", "Bool", "List", "Vec", "W", "False"}
	i := r.Intn(len(names))
	before := []int{3, 3, 4, 5, 4, 1}[i]
	as := r.several(before, size/2)
	if r.Intn(8) > 0 {
		as = append(as, r.of(names[i], size/2))
		as = append(as, r.several(r.Intn(3), 2)...)
	}
	return term.Apply(r.constant(names[i]+".rec"), as)
}

// built: a constructor of some family, applied to what it takes.
func (r maker) built(size int) api.Term {
	return r.of([]string{"Nat", "Bool", "List", "Vec", "W"}[r.Intn(5)], size)
}

// of: a term that mostly is built by a constructor of that family, itself or after some steps.
func (r maker) of(family string, size int) api.Term {
	if r.Intn(6) == 0 || size < 1 {
		return r.term(size)
	}
	if r.Intn(6) == 0 {
		return api.Term{Kind: api.Let, Args: []api.Term{tree.Variable(0), r.of(family, size/2), tree.Variable(0)}}
	}
	switch family {
	case "Nat":
		if r.Intn(3) == 0 {
			return r.constant("zero", "one", "two")
		}
		return term.Apply(r.constant("succ"), []api.Term{r.of("Nat", size/2)})
	case "Bool":
		return r.constant("yes", "no")
	case "List":
		if r.Intn(3) == 0 {
			return term.Apply(r.constant("nil"), r.several(1, size/3))
		}
		return term.Apply(r.constant("cons"), append(r.several(2, size/2), r.of("List", size/2)))
	case "Vec":
		if r.Intn(3) == 0 {
			return term.Apply(r.constant("vnil"), r.several(1, size/3))
		}
		return term.Apply(r.constant("vcons"), append(r.several(3, size/2), r.of("Vec", size/2)))
	case "W":
		return term.Apply(r.constant("sup"), append(r.several(3, size/2), api.Term{Kind: api.Lam, Args: []api.Term{tree.Variable(0), r.under().of("W", size/2)}}))
	}
	return r.term(size)
}

// counted: how often the answers were of each sort, lest the test tell nothing.
type counted struct{ forms, steps, tired, large int }

func (c *counted) add(steps, code int) {
	switch {
	case code == -1:
		c.large++
	case code == api.FTired:
		c.tired++
	default:
		c.forms++
		c.steps += steps
	}
}

func TestMachineDoesWhatTheWordsSay(t *testing.T) {
	e := world(t)
	l := &literal{decls: e.Decls()}
	r := maker{rand.New(rand.NewSource(1)), 4}
	var all counted
	for range 3000 {
		made := r.term(6 + r.Intn(50))
		text := term.Print(made)
		for what, reduce := range []func(t api.Term, fuel int) (api.Term, int, error){e.Whnf, e.Normal} {
			fuel := r.Intn(60)
			want, steps, code := l.by([]func(t api.Term) api.Term{l.whnf, l.normal}[what], made, fuel)
			all.add(steps, code)
			if code == -1 {
				continue
			}
			got, n, err := reduce(made, fuel)
			gotCode, _ := api.Code(err)
			if gotCode != code || n != steps || !reflect.DeepEqual(got, want) {
				t.Fatalf("%d of %s with fuel %d:\n%s, %d steps, fault %d; want\n%s, %d steps, fault %d", what, text, fuel, term.Print(got), n, gotCode, term.Print(want), steps, code)
			}
		}
		if term.Print(made) != text {
			t.Fatalf("%s is changed", text)
		}
	}
	if all.forms < 3000 || all.steps < 3*all.forms || all.tired < 300 || all.large > 300 {
		t.Errorf("the test tells too little: %+v", all)
	}
}

// expanded is a term with the same normal form, or one that differs by eta or by levels that are Same.
func (r maker) expanded(t api.Term) api.Term {
	if t.Kind == api.Sort && r.Intn(2) == 0 {
		return api.Term{Kind: api.Sort, Levels: []api.Level{{Kind: api.Max, Args: []api.Level{t.Levels[0], {}}}}}
	}
	if r.Intn(3) > 0 || t.Kind == api.Sort {
		made := term.Lift(t, 0, 0)
		for i := range made.Args {
			made.Args[i] = r.expanded(made.Args[i])
		}
		return made
	}
	switch r.Intn(4) {
	case 0:
		return api.Term{Kind: api.Let, Args: []api.Term{tree.Variable(0), r.leaf(), term.Lift(t, 1, 0)}}
	case 1:
		return term.Apply(api.Term{Kind: api.Lam, Args: []api.Term{r.leaf(), tree.Variable(0)}}, []api.Term{t})
	case 2:
		return api.Term{Kind: api.Lam, Args: []api.Term{r.leaf(), term.Apply(term.Lift(t, 1, 0), []api.Term{tree.Variable(0)})}}
	}
	return t
}

func TestEqualSaysWhatNormalFormsSay(t *testing.T) {
	e := world(t)
	l := &literal{decls: e.Decls()}
	r := maker{rand.New(rand.NewSource(2)), 4}
	const fuel = 60
	counts := map[bool]int{}
	for range 3000 {
		a := r.term(4 + r.Intn(30))
		b := r.expanded(a)
		if r.Intn(4) == 0 {
			b = r.term(4)
		}
		x, xSteps, xCode := l.by(l.normal, a, fuel)
		y, ySteps, yCode := l.by(l.normal, b, fuel)
		if xCode != 0 || yCode != 0 {
			continue
		}
		want := term.Equal(contractedForm(x), contractedForm(y))
		counts[want]++
		for _, few := range []int{xSteps + ySteps, fuel + fuel, 100000, max(0, xSteps+ySteps-1)} {
			got, err := e.Equal(a, b, few)
			code, at := api.Code(err)
			if code == api.FTired && at == 0 && few < xSteps+ySteps && !got {
				continue
			}
			if err != nil || got != want {
				t.Fatalf("Equal(%s, %s) with fuel %d = %v, fault %d; want %v", term.Print(a), term.Print(b), few, got, code, want)
			}
		}
	}
	if counts[true] < 500 || counts[false] < 500 {
		t.Errorf("the test tells too little: %v", counts)
	}
}

// Levels that stand in a definition's or a family's levels are put in all at once.
func TestLevelingIsSubst(t *testing.T) {
	r := rand.New(rand.NewSource(3))
	names := []string{"u", "v", "w"}
	var made func(depth int) api.Level
	made = func(depth int) api.Level {
		if kind := r.Intn(5); depth > 0 && kind != api.Param && kind != api.Zero {
			l := api.Level{Kind: kind, Args: []api.Level{made(depth - 1)}}
			if kind != api.Succ {
				l.Args = append(l.Args, made(depth-1))
			}
			return l
		}
		return api.Level{Kind: api.Param, Name: names[r.Intn(3)]}
	}
	for range 2000 {
		first := []api.Level{made(3), made(2), {Kind: api.Param, Name: "w"}}
		second := []api.Level{made(3), made(2)}
		l := made(4)
		g := (*leveling)(nil).with(names, first)
		h := g.with([]string{"v", "u"}, second)
		want := level.Subst(l, []string{"v", "u"}, []api.Level{level.Subst(second[0], names, first), level.Subst(second[1], names, first)})
		got, parts := h.putAll([]api.Level{l})
		if level.Print(got[0]) != level.Print(want) || parts[0] != tree.Parts(&api.Term{Levels: []api.Level{want}})-1 {
			t.Fatalf("%s of %d parts, want %s", level.Print(got[0]), parts[0], level.Print(want))
		}
	}
}
