package agree

import (
	"slices"
	"strconv"
	"strings"
	"testing"

	"provekernel/api"
	"provekernel/file"
	"provekernel/kernel"
	"provekernel/reduce"
	"provekernel/term"
)

// member: what a variable of a drawn family is.
type member int

// The kinds of members. Those of a set are behind all others, by the set's place.
const (
	number member = iota
	set
	predicate
	universe // of a level that the family has
	other
	element
)

// familyDrawer draws families, most of which are right.
type familyDrawer struct {
	*drawer
	us              []string
	params, indices []member
	ctx             []member // the variables that there are, the outermost first
}

func (d *familyDrawer) one(texts ...string) api.Term { return made(texts[d.Intn(len(texts))]) }

func (d *familyDrawer) variable(at int) api.Term {
	return api.Term{Kind: api.Var, N: len(d.ctx) - 1 - at}
}

// find is a variable that is that; false: there is none.
func (d *familyDrawer) find(what member) (int, bool) {
	var found []int
	for at, is := range d.ctx {
		if is == what {
			found = append(found, at)
		}
	}
	if len(found) == 0 {
		return 0, false
	}
	return found[d.Intn(len(found))], true
}

// what draws what a variable may be.
func (d *familyDrawer) what() member {
	if at, ok := d.find(set); ok && d.Intn(2) == 0 {
		return element + member(at)
	}
	return member(d.Intn(int(other)))
}

// typ is the type of a variable that is that.
func (d *familyDrawer) typ(what member) api.Term {
	switch what {
	case number:
		return d.one("(const Nat)", "(const Nat)", "(const N)", "(app (lam (sort (s 0)) #0) (const Nat))", "(let (const Nat) (const zero) (const N))", "(app (const Arr) (const zero))")
	case set:
		return d.one("(sort (s 0))", "(sort (s 0))", "(const Type)")
	case predicate:
		return d.one("(pi (const Nat) (sort 0))", "(pi (const N) (sort 0))")
	case universe:
		return made("(sort " + d.u() + ")")
	}
	return d.variable(int(what - element))
}

// u is a level's parameter that the family has, if it has one.
func (d *familyDrawer) u() string {
	if len(d.us) == 0 {
		return "(s 0)"
	}
	return d.us[d.Intn(len(d.us))]
}

// thing is a term that is that.
func (d *familyDrawer) thing(what member) api.Term {
	if at, ok := d.find(what); ok && d.Intn(3) > 0 {
		return d.variable(at)
	}
	switch what {
	case number:
		if d.Intn(2) == 0 {
			return made("(app (const succ) $0)", d.thing(number))
		}
		return d.one("(const zero)", "(const two)")
	case set:
		return d.one("(const Nat)", "(const N)", "(sort 0)")
	case predicate:
		return d.one("(const P)", "(lam (const Nat) (app (const P) (app (const succ) #0)))")
	case universe:
		return made("(const Any " + d.u() + " " + d.u() + ")")
	}
	at, _ := d.find(what)
	return d.variable(at)
}

// bound draws with one more variable, that a pi binds.
func (d *familyDrawer) bound(typ api.Term, what member, draw func() api.Term) api.Term {
	d.ctx = append(d.ctx, what)
	defer func() { d.ctx = d.ctx[:len(d.ctx)-1] }()
	return joined(api.Pi, typ, draw())
}

// family draws one with its constructors.
func (d *familyDrawer) family() api.Decl {
	d.us = [][]string{nil, nil, {"u"}, {"r"}, {"u", "v"}, {"r1", "r"}, {"a", "b", "c", "d", "e", "f"}}[d.Intn(7)]
	params, indices := d.Intn(3), d.Intn(3)
	made := api.Decl{Kind: api.Inductive, Name: "A", Params: d.us, Arity: params}
	var types []api.Term
	var next func() api.Term
	next = func() api.Term {
		if len(types) == params+indices {
			d.params, d.indices = slices.Clone(d.ctx[:params]), slices.Clone(d.ctx[params:])
			return api.Term{Kind: api.Sort, Levels: []api.Level{d.level()}}
		}
		what := d.what()
		types = append(types, d.typ(what))
		return d.bound(types[len(types)-1], what, next)
	}
	made.Type = next()
	for i := range []int{0, 1, 1, 1, 2, 3}[d.Intn(6)] {
		made.Ctors = append(made.Ctors, api.Ctor{Name: "c" + strconv.Itoa(i), Type: d.ctor(types[:params], d.Intn(5))})
	}
	return made
}

// level draws that of the family's sort.
func (d *familyDrawer) level() api.Level {
	texts := []string{"0", "0", "0", "(s 0)", "(s 0)", "(s (s 0))", "(s (s 0))"}
	for _, u := range d.us {
		texts = append(texts, "(imax (s "+u+") 0)", "(s "+u+")", "(max (s (s 0)) "+u+")", "(imax "+u+" (s 0))")
		if d.Intn(4) == 0 {
			texts = append(texts, u, "(imax (s 0) "+u+")", "(max "+u+" 0)")
		}
	}
	return made("(sort " + texts[d.Intn(len(texts))] + ")").Levels[0]
}

// ctor draws a constructor's type, with so many arguments. Its parameters' types may be written otherwise than the family's.
func (d *familyDrawer) ctor(params []api.Term, args int) api.Term {
	if at := len(d.ctx); at < len(params) {
		typ := params[at]
		if d.Intn(4) == 0 {
			typ = d.typ(d.params[at])
		}
		return d.bound(typ, d.params[at], func() api.Term { return d.ctor(params, args) })
	}
	if args == 0 {
		return d.itself()
	}
	typ, what := d.arg()
	return d.bound(typ, what, func() api.Term { return d.ctor(params, args-1) })
}

// arg draws an argument's type, and tells what it is.
func (d *familyDrawer) arg() (api.Term, member) {
	switch what := d.what(); d.Intn(11) {
	case 0, 1, 2:
		return d.typ(what), what
	case 3, 4:
		return made("(app $0 $1)", d.thing(predicate), d.thing(number)), other
	case 5, 6:
		return d.itself(), other
	case 7:
		return d.bound(d.typ(what), what, d.itself), other
	case 8:
		return d.bound(d.typ(what), what, func() api.Term { return d.bound(d.typ(number), number, d.itself) }), other
	case 9:
		if d.Intn(4) == 0 {
			return joined(api.Pi, d.itself(), made("(const Nat)")), other
		}
		return d.bound(d.typ(what), what, func() api.Term { return made("(const Nat)") }), other
	}
	return d.typ(number), number
}

// itself is the family with its parameters and some indices.
func (d *familyDrawer) itself() api.Term {
	whole := made("(const " + strings.Join(append([]string{"A"}, d.us...), " ") + ")")
	for at := range d.params {
		whole = joined(api.App, whole, d.variable(at))
	}
	for _, what := range d.indices {
		if int(what-element) >= len(d.params) {
			what = number // an element of an index ahead: whatever stands in that one's place
		}
		whole = joined(api.App, whole, d.thing(what))
	}
	return whole
}

// spoil changes something.
func (d *familyDrawer) spoil(made *api.Decl) {
	switch n := d.Intn(24); {
	case n == 0:
		made.Arity = max(0, made.Arity+d.Intn(3)-1)
	case n == 1:
		made.Name = []string{"Nat", "zero", "Or.rec", strings.Repeat("A", 37), strings.Repeat("A", 36), "B"}[d.Intn(6)]
	case n == 2:
		made.Params = append(slices.Clone(made.Params), []string{"u", "v", "r"}[d.Intn(3)])
	case n == 3:
		made.Params = append(slices.Clone(made.Params), strings.Split("v u a b c d e f", " ")[:d.Intn(9)]...)
	case n < 7:
		made.Type = d.otherwise(made.Type)
	case len(made.Ctors) == 0:
	case n == 7:
		made.Ctors[d.Intn(len(made.Ctors))].Name = []string{"A", "c0", "A.rec", "zero", "c1"}[d.Intn(5)]
	default:
		i := d.Intn(len(made.Ctors))
		made.Ctors[i].Type = d.otherwise(made.Ctors[i].Type)
	}
}

// otherwise is a term with something else in one place.
func (d *familyDrawer) otherwise(t api.Term) api.Term {
	if len(t.Args) > 0 && d.Intn(6) > 0 {
		i := d.Intn(len(t.Args))
		t.Args = slices.Clone(t.Args)
		t.Args[i] = d.otherwise(t.Args[i])
		return t
	}
	return d.one(
		"#0", "#1", "#2", "#7", "(const A)", "(const A u)", "(const A 0)", "(const A v u)", "(const Nat)", "(const N)", "(const zero)", "(const Big)", "(const Any u)", "(const none)", "(const c0)", "(sort (s 0))", "(sort 0)",
		"(app (const A) #0)", "(app (const A) (const zero))", "(app (const List 0) (const A))", "(app (const P) #0)", "(app (const Nat) #0)", "(app (const succ) (const Nat))", "(sort u)", "(sort w)", "(pi (const Big) (const A))",
		"(pi (const Nat) (const A))", "(pi (const A) (const Nat))", "(let (const Nat) (const zero) (const A))", "(const A.rec u)",
	)
}

// Drawn families, right ones and spoiled ones. Of one that is right: its recursor has the type that the kernel knows, and takes
// the steps that the kernel takes.
func TestDrawnFamilies(t *testing.T) {
	t.Parallel()
	counts, steps := map[string]int{}, 0
	for seed := range int64(600) {
		d := &familyDrawer{drawer: newDrawer(seed)}
		family := d.family()
		for d.Intn(3) == 0 {
			d.spoil(&family)
		}
		text := worldText + file.Print(family)
		_, got := agrees(t, text, []int{1000, 1000, 1000, 100, 12}[d.Intn(5)])
		counts[codeOf(got)]++
		e, _, err := kernel.File(text, 1000)
		if err != nil {
			continue
		}
		for _, more := range d.aboutRecursor(e, family) {
			if _, got := agrees(t, text+more, 1000); got == right {
				steps++
			}
		}
	}
	for _, code := range []string{right, "FTwice", "FVar", "FParam", "FName", "FLevels", "FFun", "FArg", "FSort", "FForm", "FPos", "FLevel", tired} {
		if counts[code] < 2 {
			t.Errorf("%s has been said only %d times: %v", code, counts[code], counts)
		}
	}
	if counts[right] < 150 || steps < 400 {
		t.Errorf("%d right ones, %d things right of their recursors", counts[right], steps)
	}
}

func constant(name string, us []string) api.Term {
	t := api.Term{Kind: api.Const, Name: name}
	for _, u := range us {
		t.Levels = append(t.Levels, api.Level{Kind: api.Param, Name: u})
	}
	return t
}

// bind binds the variables of a context.
func bind(kind int, ctx []api.Term, t api.Term) api.Term {
	for _, typ := range slices.Backward(ctx) {
		t = joined(kind, typ, t)
	}
	return t
}

// aboutRecursor are definitions that say what type a family's recursor has, and what it becomes with each constructor, and
// such that say something else.
func (d *familyDrawer) aboutRecursor(e *reduce.Env, family api.Decl) []string {
	name := family.Name + ".rec"
	params, typ, _ := e.Type(name)
	said := func(typ, value api.Term) string {
		return file.Print(api.Decl{Kind: api.Def, Name: "about", Params: params, Type: typ, Value: value})
	}
	itself := constant(name, params)
	texts := []string{said(typ, itself), said(d.otherwise(typ), itself)}
	var ctx []api.Term // parameters, motive, minors
	for range family.Arity + 1 + len(family.Ctors) {
		ctx = append(ctx, typ.Args[0])
		typ = typ.Args[1]
	}
	for i := range family.Ctors {
		inner, lhs, result := recursorWith(family, itself, ctx, i)
		rhs, _, err := e.Whnf(lhs, 1000)
		if err != nil {
			continue
		}
		ls := []api.Level{{}}
		if len(params) > len(family.Params) {
			ls = itself.Levels[:1]
		}
		for _, other := range []api.Term{rhs, d.otherwise(rhs), d.swapped(rhs)} {
			eq := term.Apply(api.Term{Kind: api.Const, Name: "Eq", Levels: ls}, []api.Term{result, lhs, other})
			refl := term.Apply(api.Term{Kind: api.Const, Name: "refl", Levels: ls}, []api.Term{result, lhs})
			texts = append(texts, said(bind(api.Pi, inner, eq), bind(api.Lam, inner, refl)))
		}
	}
	return texts
}

// recursorWith is the recursor, in the context of its parameters, motive and minors and of the arguments of constructor number
// i, applied to that one; that context, and the type that it has there.
func recursorWith(family api.Decl, itself api.Term, ctx []api.Term, i int) (inner []api.Term, whole, result api.Term) {
	between, typ := len(ctx)-family.Arity, family.Ctors[i].Type
	for range family.Arity {
		typ = typ.Args[1]
	}
	inner = slices.Clone(ctx)
	n := 0
	for ; typ.Kind == api.Pi; n++ {
		inner = append(inner, term.Lift(typ.Args[0], between, n))
		typ = typ.Args[1]
	}
	_, as := term.Spine(term.Lift(typ, between, n))
	var vs []api.Term
	for at := range inner {
		vs = append(vs, api.Term{Kind: api.Var, N: len(inner) - 1 - at})
	}
	major := term.Apply(constant(family.Ctors[i].Name, family.Params), slices.Concat(vs[:family.Arity], vs[len(vs)-n:]))
	indices := append(slices.Clone(as[family.Arity:]), major)
	whole = term.Apply(itself, slices.Concat(vs[:len(vs)-n], indices))
	return inner, whole, term.Apply(vs[family.Arity], indices)
}

// swapped is a spine with two of its arguments in each other's place.
func (d *familyDrawer) swapped(t api.Term) api.Term {
	head, as := term.Spine(t)
	if len(as) > 1 {
		i := 1 + d.Intn(len(as)-1)
		as[i-1], as[i] = as[i], as[i-1]
	}
	return term.Apply(head, as)
}
