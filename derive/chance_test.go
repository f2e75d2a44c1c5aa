package derive

import (
	"math/rand"
	"slices"
	"testing"

	"provekernel/api"
	"provekernel/term"
	"provekernel/tree"
)

// What a variable is, as the maker of terms knows it.
const (
	isNumber   = iota // of type Nat
	isType            // a let's, whose value is Nat
	isUnary           // a function of numbers
	isTwo             // a let's, whose value is two
	isUnlikely        // of a type that the maker does not use
)

// chance makes terms that are right, most of them: numbers, functions of numbers, types that are equal to Nat, types and
// proofs that hang on numbers.
type chance struct {
	*rand.Rand
	known []int // of each variable, the innermost last, what it is
}

func newChance(seed int64) *chance { return &chance{rand.New(rand.NewSource(seed)), nil} }

// under is what made makes with one more variable.
func (m *chance) under(what int, made func() api.Term) api.Term {
	m.known = append(m.known, what)
	defer func() { m.known = m.known[:len(m.known)-1] }()
	return made()
}

// variable is one that is that, if there is one; else one of these.
func (m *chance) variable(what int, others ...string) api.Term {
	var found []int
	for i, is := range m.known {
		if is == what {
			found = append(found, len(m.known)-1-i)
		}
	}
	if len(found) == 0 {
		return named(others[m.Intn(len(others))])
	}
	return tree.Variable(found[m.Intn(len(found))])
}

// choose makes one of several things.
func (m *chance) choose(makes ...func() api.Term) api.Term { return makes[m.Intn(len(makes))]() }

// function is one of numbers, with a body that made makes.
func (m *chance) function(deep int, made func(deep int) api.Term) api.Term {
	return joined(api.Lam, m.nat(deep), m.under(isNumber, func() api.Term { return made(deep) }))
}

// nat is a type that is equal to Nat.
func (m *chance) nat(deep int) api.Term {
	if deep <= 0 {
		return m.variable(isType, "Nat", "N")
	}
	one := succ(api.Level{})
	return m.choose(
		func() api.Term { return named("Nat") },
		func() api.Term { return m.nat(0) },
		func() api.Term { return spine(named("Arr"), named("zero")) },
		func() api.Term { return spine(named("id", succ(one)), named("Type"), m.nat(deep-1)) },
		func() api.Term { return spine(joined(api.Lam, sort(one), tree.Variable(0)), m.nat(deep-1)) },
		func() api.Term { return joined(api.Let, named("Type"), m.nat(deep-1), tree.Variable(0)) },
		func() api.Term { return spine(m.function(deep-1, m.nat), m.number(deep-1)) },
	)
}

// unary is a function of numbers.
func (m *chance) unary(deep int) api.Term {
	if deep <= 0 {
		return m.variable(isUnary, "succ", "f", "g")
	}
	return m.choose(
		func() api.Term { return m.unary(0) },
		func() api.Term { return spine(named("add"), m.number(deep-1)) },
		func() api.Term { return m.function(deep-1, m.number) },
		func() api.Term { return spine(named("arr"), named("one")) },
		func() api.Term { return spine(named("id", succ(api.Level{})), named("Unary"), m.unary(deep-1)) },
		func() api.Term { return m.let(deep, m.unary) },
	)
}

// let is one around what made makes.
func (m *chance) let(deep int, made func(deep int) api.Term) api.Term {
	inner := func() api.Term { return made(deep - 1) }
	return m.choose(
		func() api.Term { return joined(api.Let, m.nat(deep-1), m.number(deep-1), m.under(isNumber, inner)) },
		func() api.Term { return joined(api.Let, named("Type"), m.nat(deep-1), m.under(isType, inner)) },
		func() api.Term { return joined(api.Let, named("Deep"), m.unary(deep-1), m.under(isUnary, inner)) },
		func() api.Term { return joined(api.Let, m.nat(deep-1), named("two"), m.under(isTwo, inner)) },
		func() api.Term {
			return joined(api.Let, sort(succ(param("u"))), sort(param("u")), m.under(isUnlikely, inner))
		},
	)
}

// number is a term whose type is equal to Nat.
func (m *chance) number(deep int) api.Term {
	if deep <= 0 {
		return m.variable(isNumber, "zero", "one", "n")
	}
	return m.choose(
		func() api.Term { return m.number(0) },
		func() api.Term { return m.variable(isTwo, "two") },
		func() api.Term { return spine(m.unary(deep-1), m.number(deep-1)) },
		func() api.Term { return spine(named("add"), m.number(deep-1), m.number(deep-1)) },
		func() api.Term { return m.let(deep, m.number) },
		func() api.Term { return spine(named("id", succ(api.Level{})), m.nat(deep-1), m.number(deep-1)) },
		func() api.Term { return spine(named("q"), m.proof(deep-1)) },
		func() api.Term {
			step := joined(api.Lam, named("Nat"), m.under(isNumber, func() api.Term { return m.function(deep-2, m.number) }))
			return spine(named("Nat.rec", succ(api.Level{})), m.function(deep-1, m.nat), m.number(deep-1), step, m.number(deep-1))
		},
		func() api.Term {
			return spine(joined(api.Lam, named("Deep"), m.under(isUnary, func() api.Term { return m.number(deep - 1) })), m.unary(deep-1))
		},
	)
}

// proof is a term whose type is equal to (app (const P) (const two)).
func (m *chance) proof(deep int) api.Term {
	return spine(named("p"), m.choose(
		func() api.Term { return m.variable(isTwo, "two") },
		func() api.Term { return spine(named("succ"), named("one")) },
		func() api.Term { return spine(named("add"), named("one"), named("one")) },
		func() api.Term {
			return joined(api.Let, m.nat(deep-1), named("one"), spine(named("succ"), tree.Variable(0)))
		},
	))
}

// product is a type: a proposition, or some pi.
func (m *chance) product(deep int) api.Term {
	if deep <= 0 {
		return spine(named("P"), m.number(0))
	}
	return m.choose(
		func() api.Term { return spine(named("P"), m.number(deep-1)) },
		func() api.Term {
			return joined(api.Pi, m.nat(deep-1), m.under(isNumber, func() api.Term { return m.product(deep - 1) }))
		},
		func() api.Term {
			return joined(api.Pi, m.product(deep-1), m.under(isUnlikely, func() api.Term { return m.product(deep - 1) }))
		},
		func() api.Term {
			return joined(api.Pi, sort(param("v")), m.under(isUnlikely, func() api.Term { return m.nat(deep - 1) }))
		},
		func() api.Term { return m.let(deep, m.product) },
	)
}

// any is a term of any of these kinds.
func (m *chance) any(deep int) api.Term {
	return m.choose(
		func() api.Term { return m.nat(deep) },
		func() api.Term { return m.number(deep) },
		func() api.Term { return m.unary(deep) },
		func() api.Term { return m.proof(deep) },
		func() api.Term { return spine(named("refl", succ(api.Level{})), m.nat(deep-1), m.number(deep-1)) },
		func() api.Term { return spine(named("p"), m.number(deep-1)) },
		func() api.Term { return m.product(deep) },
		func() api.Term { return m.function(deep-1, m.any) },
		func() api.Term {
			return joined(api.Lam, sort(param("u")), m.under(isUnlikely, func() api.Term {
				return joined(api.Lam, tree.Variable(0), m.under(isUnlikely, func() api.Term { return m.any(deep - 2) }))
			}))
		},
		func() api.Term { return m.let(deep, m.any) },
	)
}

// spoiled is a term with something else in one place.
func (m *chance) spoiled(t api.Term) api.Term {
	if len(t.Args) > 0 && m.Intn(8) > 0 {
		i := m.Intn(len(t.Args))
		t.Args = slices.Clone(t.Args)
		t.Args[i] = m.spoiled(t.Args[i])
		return t
	}
	others := []api.Term{
		tree.Variable(0), tree.Variable(1), tree.Variable(2), tree.Variable(7), sort(api.Level{}), sort(param("v")), sort(param("w")), named("none"), named("Nat"), named("Nat", param("u")),
		named("zero"), named("two"), named("a"), named("succ"), named("id", succ(api.Level{})), named("id"), named("id", param("w")), named("P"), named("Deep"),
	}
	return others[m.Intn(len(others))]
}

// Terms that are right, and terms that are spoiled somewhere, with much fuel and with little: derivations of those, the faults
// of these.
func TestTermsByChance(t *testing.T) {
	l := looker{world(t), levelNames}
	counts, rules, long, deep := map[string]int{}, map[int]int{}, 0, 0
	for seed := range int64(6000) {
		m := newChance(seed)
		fuel := []int{1000, 1000, 1000, 12, 3, 1, 0}[m.Intn(7)]
		made := m.any(1 + m.Intn(7))
		for m.Intn(3) == 0 {
			made = m.spoiled(made)
		}
		if tree.Parts(&made) > 2000 {
			continue
		}
		ss, got := l.of(t, made, fuel)
		counts[got]++
		if len(ss) > mostPlain {
			long++
		}
		for _, s := range ss {
			rules[s.Rule]++
			if len(s.Ctx) > 3 {
				deep++
			}
		}
	}
	for _, said := range []string{right, "FVar", "FParam", "FName", "FLevels", "FFun", "FArg", "FSort", "FTired"} {
		if counts[said] < 20 {
			t.Errorf("%s has been told only %d times", said, counts[said])
		}
	}
	for rule := api.RVar; rule <= api.RLet; rule++ {
		if rules[rule] < 300 {
			t.Errorf("%s has been used only %d times", ruleNames[rule], rules[rule])
		}
	}
	if counts[right] < 1500 || long < 100 || deep < 1000 {
		t.Errorf("%d right ones, %d of them long, %d steps in great contexts", counts[right], long, deep)
	}
}

// What the chapters' words form by chance: lifted, and with a term put in, it is what term makes of it, as a node and as a type;
// so is what is known of it. The same one is made once.
func TestChangesByChance(t *testing.T) {
	for seed := range int64(3000) {
		r := newChance(seed)
		y := newTypist(newOutline(1<<30), nil, 0)
		made, put := r.open(6), r.open(3)
		n := r.Intn(4)
		value := y.read(&put)
		lifted := func(t *node, n int) *node { return (&change{maker: &y.maker, up: n}).under(t, 0) }
		let := joined(api.Let, put, put, made)
		filled := y.unfolded(y.read(&let))
		whole := y.measured(made)
		for _, c := range []struct {
			what string
			got  *node
			want api.Term
		}{
			{"itself", y.read(&made), made},
			{"lifted", lifted(y.read(&made), n), term.Lift(made, n, 0)},
			{"filled", filled, term.Subst(made, put)},
			{"filled again", y.unfolded(y.read(&let)), term.Subst(made, put)},
			{"twice lifted", lifted(lifted(y.read(&made), n), 2), term.Lift(made, n+2, 0)},
		} {
			isKnown(t, c.what, c.got.Term, c.got.size, c.got.free, c.want)
			if y.read(&c.want) != c.got {
				t.Errorf("%s of %s, %s is made twice", c.what, term.Print(made), term.Print(put))
			}
		}
		isKnown(t, "measured", whole.Term, whole.size, whole.free, made)
		got := y.applied(&typ{Term: joined(api.Pi, put, made)}, value)
		isKnown(t, "applied", got.Term, got.size, got.free, term.Subst(made, put))
		y.contexts = append(y.contexts, context{typ: y.read(&made).number, count: 1}, context{outer: 1, count: 2})
		for i, context := range []int32{1, 2} {
			got = y.variableType(context, i)
			isKnown(t, "a variable's type", got.Term, got.size, got.free, term.Lift(made, i+1, 0))
		}
	}
}

// isKnown: a term that has been made, how many parts it has, its free variables.
func isKnown(t *testing.T, what string, got api.Term, size, free int, want api.Term) {
	t.Helper()
	wantFree := 0
	for !term.Closed(want, wantFree) {
		wantFree++
	}
	if !tree.Same(&got, &want) || size != tree.Parts(&want) || free != wantFree {
		t.Errorf("%s: %s, of %d parts, free %d; want %s", what, term.Print(got), size, free, term.Print(want))
	}
}

// open is a term of any form, with free variables.
func (m *chance) open(deep int) api.Term {
	if deep <= 0 || m.Intn(6) == 0 {
		return m.choose(
			func() api.Term { return tree.Variable(m.Intn(6)) },
			func() api.Term { return tree.Variable(m.Intn(2)) },
			func() api.Term { return sort([]api.Level{{}, param("u"), succ(param("u"))}[m.Intn(3)]) },
			func() api.Term {
				return named([]string{"a", "b"}[m.Intn(2)], slices.Repeat([]api.Level{param("v")}, m.Intn(3))...)
			},
		)
	}
	parts := []api.Term{m.open(deep - 1), m.open(deep - 1), m.open(deep - 1)}
	kind := api.App + m.Intn(4)
	if kind != api.Let {
		parts = parts[:2]
	}
	return joined(kind, parts...)
}
