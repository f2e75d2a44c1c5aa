package check

import (
	"math/rand"
	"slices"
	"strconv"
	"testing"

	"provekernel/api"
	"provekernel/level"
	"provekernel/reduce"
	"provekernel/term"
	"provekernel/tree"
)

// literal finds types by the chapter's words, by substitution in whole terms: what Infer is held against.
type literal struct {
	env    *reduce.Env
	params []string
	fuel   int
	looked int
}

// wrong is thrown with a fault's code; lost when a term takes so long that there is nothing to hold against.
type wrong int
type lost struct{}

const longest = 20000

func (l *literal) infer(ctx []api.Term, t api.Term) api.Term {
	l.looked++
	if l.looked > longest {
		panic(lost{})
	}
	switch t.Kind {
	case api.Var:
		if t.N >= len(ctx) {
			panic(wrong(api.FVar))
		}
		return term.Lift(ctx[len(ctx)-1-t.N], t.N+1, 0)
	case api.Sort:
		l.known(t.Levels[0])
		return api.Term{Kind: api.Sort, Levels: []api.Level{{Kind: api.Succ, Args: t.Levels}}}
	case api.Const:
		return l.constant(t)
	case api.App:
		return l.application(ctx, t.Args[0], t.Args[1])
	case api.Lam:
		l.sort(ctx, t.Args[0])
		return node(api.Pi, t.Args[0], l.infer(slices.Concat(ctx, t.Args[:1]), t.Args[1]))
	case api.Pi:
		first := l.sort(ctx, t.Args[0])
		last := l.sort(slices.Concat(ctx, t.Args[:1]), t.Args[1])
		return api.Term{Kind: api.Sort, Levels: []api.Level{{Kind: api.IMax, Args: []api.Level{first, last}}}}
	}
	l.sort(ctx, t.Args[0])
	l.equal(l.infer(ctx, t.Args[1]), t.Args[0])
	return l.infer(ctx, term.Subst(t.Args[2], t.Args[1]))
}

func (l *literal) known(a api.Level) {
	for _, name := range level.Params(a) {
		if !slices.Contains(l.params, name) {
			panic(wrong(api.FParam))
		}
	}
}

func (l *literal) constant(t api.Term) api.Term {
	params, typ, ok := l.env.Type(t.Name)
	if !ok {
		panic(wrong(api.FName))
	}
	if len(params) != len(t.Levels) {
		panic(wrong(api.FLevels))
	}
	for _, a := range t.Levels {
		l.known(a)
	}
	return term.Levels(typ, params, t.Levels)
}

func (l *literal) application(ctx []api.Term, f, a api.Term) api.Term {
	typ := l.whnf(l.infer(ctx, f))
	if typ.Kind != api.Pi {
		panic(wrong(api.FFun))
	}
	l.equal(l.infer(ctx, a), typ.Args[0])
	return term.Subst(typ.Args[1], a)
}

func (l *literal) sort(ctx []api.Term, t api.Term) api.Level {
	typ := l.whnf(l.infer(ctx, t))
	if typ.Kind != api.Sort {
		panic(wrong(api.FSort))
	}
	return typ.Levels[0]
}

func (l *literal) whnf(t api.Term) api.Term {
	made, _, err := l.env.Whnf(t, l.fuel)
	if err != nil {
		panic(wrong(api.FTired))
	}
	return made
}

func (l *literal) equal(a, b api.Term) {
	equal, err := l.env.Equal(a, b, l.fuel)
	if err != nil {
		panic(wrong(api.FTired))
	}
	if !equal {
		panic(wrong(api.FArg))
	}
}

// told is what the chapter's words say of a term; false: they take too long.
func (q asked) toldLiterally(t api.Term) (said string, ok bool) {
	l := &literal{env: q.env, params: levelNames, fuel: q.fuel}
	defer func() {
		switch thrown := recover().(type) {
		case nil:
		case wrong:
			said, ok = codeText(int(thrown)), true
		case lost:
			said, ok = "", false
		default:
			panic(thrown)
		}
	}()
	return term.Print(l.infer(q.ctx, t)), true
}

func node(kind int, parts ...api.Term) api.Term { return api.Term{Kind: kind, Args: parts} }

func named(name string, ls ...api.Level) api.Term {
	return api.Term{Kind: api.Const, Name: name, Levels: ls}
}

func sort(l api.Level) api.Term { return api.Term{Kind: api.Sort, Levels: []api.Level{l}} }

func param(name string) api.Level { return api.Level{Kind: api.Param, Name: name} }

func succ(l api.Level) api.Level { return api.Level{Kind: api.Succ, Args: []api.Level{l}} }

// spine is (..(f a1) .. an), of the very terms.
func spine(f api.Term, as ...api.Term) api.Term {
	for _, a := range as {
		f = node(api.App, f, a)
	}
	return f
}

// What a variable is, as the maker knows it.
const (
	isNumber   = iota // of type Nat
	isType            // a let's, whose value is Nat
	isUnary           // a function of numbers
	isOneTwo          // a let's, whose value is two
	isUnlikely        // of a type that the maker does not use
)

// maker makes terms by chance that are right, most of them: numbers, functions of numbers, types that are equal to Nat, types
// and proofs that hang on numbers.
type maker struct {
	*rand.Rand
	known []int // of each variable, the innermost last, what it is
}

func newMaker(seed int64, ctx ...int) *maker {
	return &maker{rand.New(rand.NewSource(seed)), ctx}
}

// under is what made makes with one more variable.
func (m *maker) under(what int, made func() api.Term) api.Term {
	m.known = append(m.known, what)
	defer func() { m.known = m.known[:len(m.known)-1] }()
	return made()
}

// variable is one that is that, if there is one; else another term.
func (m *maker) variable(what int, other api.Term) api.Term {
	var found []int
	for i, is := range m.known {
		if is == what {
			found = append(found, len(m.known)-1-i)
		}
	}
	if len(found) == 0 {
		return other
	}
	return tree.Variable(found[m.Intn(len(found))])
}

// choose makes one of several things.
func (m *maker) choose(makes ...func() api.Term) api.Term { return makes[m.Intn(len(makes))]() }

// nat is a type that is equal to Nat.
func (m *maker) nat(deep int) api.Term {
	if deep <= 0 {
		return m.variable(isType, named([]string{"Nat", "N"}[m.Intn(2)]))
	}
	one := succ(api.Level{})
	return m.choose(
		func() api.Term { return named("Nat") },
		func() api.Term { return m.nat(0) },
		func() api.Term { return spine(named("id", succ(one)), named("Type"), m.nat(deep-1)) },
		func() api.Term { return spine(node(api.Lam, sort(one), tree.Variable(0)), m.nat(deep-1)) },
		func() api.Term { return node(api.Let, named("Type"), m.nat(deep-1), tree.Variable(0)) },
		func() api.Term {
			a := m.number(deep - 1)
			return spine(node(api.Lam, m.nat(deep-1), m.under(isNumber, func() api.Term { return m.nat(deep - 1) })), a)
		},
	)
}

// unary is a function of numbers.
func (m *maker) unary(deep int) api.Term {
	if deep <= 0 {
		return m.variable(isUnary, named([]string{"succ", "f", "g"}[m.Intn(3)]))
	}
	return m.choose(
		func() api.Term { return m.unary(0) },
		func() api.Term { return spine(named("add"), m.number(deep-1)) },
		func() api.Term {
			return node(api.Lam, m.nat(deep-1), m.under(isNumber, func() api.Term { return m.number(deep - 1) }))
		},
		func() api.Term { return spine(named("id", succ(api.Level{})), named("Unary"), m.unary(deep-1)) },
		func() api.Term { return m.let(deep, m.unary) },
	)
}

// let is one around what made makes.
func (m *maker) let(deep int, made func(deep int) api.Term) api.Term {
	inner := func() api.Term { return made(deep - 1) }
	return m.choose(
		func() api.Term {
			return node(api.Let, m.nat(deep-1), m.number(deep-1), m.under(isNumber, inner))
		},
		func() api.Term { return node(api.Let, named("Type"), m.nat(deep-1), m.under(isType, inner)) },
		func() api.Term { return node(api.Let, named("Deep"), m.unary(deep-1), m.under(isUnary, inner)) },
		func() api.Term { return node(api.Let, m.nat(deep-1), named("two"), m.under(isOneTwo, inner)) },
		func() api.Term {
			return node(api.Let, sort(succ(param("u"))), sort(param("u")), m.under(isUnlikely, inner))
		},
	)
}

// number is a term whose type is equal to Nat.
func (m *maker) number(deep int) api.Term {
	if deep <= 0 {
		return m.variable(isNumber, named([]string{"zero", "one", "n"}[m.Intn(3)]))
	}
	return m.choose(
		func() api.Term { return m.number(0) },
		func() api.Term { return m.variable(isOneTwo, named("two")) },
		func() api.Term { return spine(m.unary(deep-1), m.number(deep-1)) },
		func() api.Term { return spine(named("add"), m.number(deep-1), m.number(deep-1)) },
		func() api.Term { return m.let(deep, m.number) },
		func() api.Term { return spine(named("id", succ(api.Level{})), m.nat(deep-1), m.number(deep-1)) },
		func() api.Term { return spine(named("q"), m.proof(deep-1)) },
		func() api.Term {
			motive := node(api.Lam, m.nat(deep-1), m.under(isNumber, func() api.Term { return m.nat(deep - 1) }))
			step := node(api.Lam, named("Nat"), m.under(isNumber, func() api.Term {
				return node(api.Lam, m.nat(deep-2), m.under(isNumber, func() api.Term { return m.number(deep - 2) }))
			}))
			return spine(named("Nat.rec", succ(api.Level{})), motive, m.number(deep-1), step, m.number(deep-1))
		},
		func() api.Term {
			return spine(node(api.Lam, named("Deep"), m.under(isUnary, func() api.Term { return m.number(deep - 1) })), m.unary(deep-1))
		},
	)
}

// proof is a term whose type is equal to (app (const P) (const two)).
func (m *maker) proof(deep int) api.Term {
	two := m.choose(
		func() api.Term { return m.variable(isOneTwo, named("two")) },
		func() api.Term { return spine(named("succ"), named("one")) },
		func() api.Term { return spine(named("add"), named("one"), named("one")) },
		func() api.Term {
			return node(api.Let, m.nat(deep-1), named("one"), spine(named("succ"), tree.Variable(0)))
		},
	)
	return spine(named("p"), two)
}

// any is a term of any of these kinds.
func (m *maker) any(deep int) api.Term {
	return m.choose(
		func() api.Term { return m.nat(deep) },
		func() api.Term { return m.number(deep) },
		func() api.Term { return m.unary(deep) },
		func() api.Term { return m.proof(deep) },
		func() api.Term { return spine(named("refl", succ(api.Level{})), m.nat(deep-1), m.number(deep-1)) },
		func() api.Term { return spine(named("p"), m.number(deep-1)) },
		func() api.Term {
			return node(api.Pi, m.nat(deep-1), m.under(isNumber, func() api.Term { return spine(named("P"), m.number(deep-1)) }))
		},
		func() api.Term {
			return node(api.Lam, m.nat(deep-1), m.under(isNumber, func() api.Term { return m.any(deep - 1) }))
		},
		func() api.Term {
			return node(api.Lam, sort(param("u")), m.under(isUnlikely, func() api.Term {
				return node(api.Lam, tree.Variable(0), m.under(isUnlikely, func() api.Term { return m.any(deep - 2) }))
			}))
		},
		func() api.Term { return m.let(deep, m.any) },
	)
}

// spoiled is a term with something else in one place.
func (m *maker) spoiled(t api.Term) api.Term {
	if len(t.Args) > 0 && m.Intn(8) > 0 {
		i := m.Intn(len(t.Args))
		t.Args = slices.Clone(t.Args)
		t.Args[i] = m.spoiled(t.Args[i])
		return t
	}
	return []api.Term{
		tree.Variable(0), tree.Variable(1), tree.Variable(2), tree.Variable(7), sort(api.Level{}), sort(param("v")), sort(param("w")), named("none"), named("Nat"), named("Nat", param("u")),
		named("zero"), named("two"), named("a"), named("succ"), named("id", succ(api.Level{})), named("id"), named("id", param("w")), named("P"), named("Deep"),
	}[m.Intn(19)]
}

// Terms that are right, and terms that are spoiled somewhere, in contexts and with little fuel: what is told is what the
// chapter's words say.
func TestInferAsTheChapterSays(t *testing.T) {
	e := world(t)
	ctx := parsedAll(t, []string{"(const Nat)", "(const Unary)", "(sort u)", "#0"})
	right, counts := 0, map[string]int{}
	for seed := range int64(6000) {
		m := newMaker(seed)
		q := asked{e, nil, []int{1000, 1000, 12, 3, 1, 0}[m.Intn(6)]}
		if m.Intn(2) == 0 {
			m.known, q.ctx = []int{isNumber, isUnary, isUnlikely, isUnlikely}, ctx
		}
		made := m.any(1 + m.Intn(4))
		for m.Intn(3) == 0 {
			made = m.spoiled(made)
		}
		want, ok := q.toldLiterally(made)
		if !ok {
			continue
		}
		got := q.told(t, made)
		if got != want {
			t.Errorf("Infer(%s) with fuel %d, in a context of %d = %s, want %s", term.Print(made), q.fuel, len(q.ctx), got, want)
		}
		counts[want]++
		if want[0] == '(' || want[0] == '#' {
			right++
		}
	}
	if right < 2000 {
		t.Errorf("only %d terms were right", right)
	}
	for _, fault := range []string{"FVar", "FParam", "FName", "FLevels", "FFun", "FArg", "FSort", "FTired"} {
		if counts[fault] < 20 {
			t.Errorf("%s has been told only %d times", fault, counts[fault])
		}
	}
}

// A term that is brought to a normal form, or a step on its way there, keeps its type.
func TestNormalFormsKeepTheirTypes(t *testing.T) {
	e := world(t)
	texts := []string{
		app("(const add)", num(3), num(4)), twoIsTwo, "(const two)", "(const Deep)", "(const id u)", "(const N)",
		"(lam (sort u) (app (const id (s u)) (sort u)))",
		app("(const vcons 0)", "(const N)", app("(const add)", "(const zero)", "(const zero)"), "(const n)", app("(const vnil 0)", "(const Nat)")),
		app("(const Vec.rec (s 0) 0)", "(const Nat)", "(lam (const Nat) (lam (app (app (const Vec 0) (const Nat)) #0) (const Nat)))", "(const zero)",
			"(lam (const Nat) (lam (const Nat) (lam (app (app (const Vec 0) (const Nat)) #1) (lam (const Nat) (app (app (const add) #0) #2)))))", "(const one)",
			app("(const vcons 0)", "(const Nat)", "(const zero)", "(const two)", app("(const vnil 0)", "(const Nat)"))),
		app("(const Eq.rec (s 0) (s 0))", "(const Nat)", "(const two)", "(lam (const Nat) (lam (app (app (app (const Eq (s 0)) (const Nat)) (const two)) #0) (const Nat)))", "(const one)", "(const two)", app("(const refl (s 0))", "(const Nat)", "(const two)")),
		app("(const Eq.rec 0 (s 0))", "(const Nat)", "(const two)", "(lam (const Nat) (lam (app (app (app (const Eq (s 0)) (const Nat)) (const two)) #0) (app (const P) #1)))", app("(const p)", "(const two)"), app("(const add)", "(const one)", "(const one)"), app("(const refl (s 0))", "(const Nat)", "(const two)")),
		app("(const W.rec (s 0) 0 0)", "(const Nat)", "(lam (const Nat) (const Nat))", "(lam (app (app (const W 0 0) (const Nat)) (lam (const Nat) (const Nat))) (const Nat))",
			"(lam (const Nat) (lam (pi (const Nat) (app (app (const W 0 0) (const Nat)) (lam (const Nat) (const Nat)))) (lam (pi (const Nat) (const Nat)) (app (const succ) (app #0 #2)))))",
			app("(const sup 0 0)", "(const Nat)", "(lam (const Nat) (const Nat))", "(const two)", "(lam (const Nat) (app (app (app (app (const sup 0 0) (const Nat)) (lam (const Nat) (const Nat))) #0) (lam (const Nat) (app (app (const False.rec (s 0)) (lam (const False) (app (app (const W 0 0) (const Nat)) (lam (const Nat) (const Nat))))) (const F)))))")),
	}
	var made []api.Term
	for _, text := range texts {
		made = append(made, parsed(t, text))
	}
	for seed := range int64(1500) {
		m := newMaker(seed + 100000)
		made = append(made, m.any(1+m.Intn(4)))
	}
	for i, right := range made {
		keepsType(t, e, "term "+strconv.Itoa(i), right)
	}
}

// keepsType: a term's forms have types that are equal to its own.
func keepsType(t *testing.T, e *reduce.Env, what string, made api.Term) {
	t.Helper()
	typ, err := Infer(e, levelNames, nil, made, 10000)
	if err != nil {
		code, _ := api.Code(err)
		t.Errorf("%s, %s, is not right: %s", what, term.Print(made), codeText(code))
		return
	}
	for _, reduce := range []func(t api.Term, fuel int) (api.Term, int, error){e.Whnf, e.Normal} {
		form, _, err := reduce(made, 10000)
		if err != nil {
			t.Errorf("%s has no form: %v", what, err)
			continue
		}
		other, err := Infer(e, levelNames, nil, form, 10000)
		if err != nil {
			code, _ := api.Code(err)
			t.Errorf("%s, %s, has the form %s, that is not right: %s", what, term.Print(made), term.Print(form), codeText(code))
			continue
		}
		if equal, err := e.Equal(typ, other, 10000); !equal || err != nil {
			t.Errorf("%s, %s, has the type %s, its form %s: %v", what, term.Print(made), term.Print(typ), term.Print(other), err)
		}
	}
}
