package derive

import (
	"math"
	"slices"
	"testing"

	"provekernel/api"
	"provekernel/check"
	"provekernel/reduce"
	"provekernel/term"
	"provekernel/tree"
)

// nested puts a term into another, so many times.
func nested(n int, inner api.Term, around func(t api.Term) api.Term) api.Term {
	for range n {
		inner = around(inner)
	}
	return inner
}

// within puts a term into others of that kind, as their last part.
func within(n, kind int, inner api.Term, ahead ...api.Term) api.Term {
	return nested(n, inner, func(x api.Term) api.Term { return joined(kind, slices.Concat(ahead, []api.Term{x})...) })
}

func sum(x, y api.Term) api.Term { return spine(named("add"), x, y) }

// large: a term of many parts, and what it is.
type large struct {
	what string
	made api.Term
}

// largeTerms: about as deep and as large as the document allows.
func largeTerms() []large {
	v, nat, zero := tree.Variable, named("Nat"), named("zero")
	set := sort(succ(api.Level{}))
	return []large{
		{"a number", within(9900, api.App, zero, named("succ"))},
		{"functions", within(6000, api.Lam, zero, nat)},
		{"functions, with the outermost variable", within(6000, api.Lam, v(5999), nat)},
		{"products", within(6000, api.Pi, nat, nat)},
		{"products, each by steps", within(6000, api.Pi, named("A"), named("A"))},
		{"products of products", nested(6000, nat, func(x api.Term) api.Term { return joined(api.Pi, x, nat) })},
		{"sums on the left", nested(4900, zero, func(x api.Term) api.Term { return sum(x, zero) })},
		{"sums on the right", nested(4900, zero, func(x api.Term) api.Term { return sum(zero, x) })},
		{"functions that are applied", nested(3300, nat, func(x api.Term) api.Term { return spine(joined(api.Lam, set, v(0)), x) })},
		{"a function of many arguments", joined(api.Lam, within(6000, api.Pi, nat, nat), spine(v(0), slices.Repeat([]api.Term{zero}, 3900)...))},
		{"lets in bodies", within(6600, api.Let, v(0), nat, zero)},
		{"lets in bodies, each with the one ahead", joined(api.Let, nat, zero, within(3300, api.Let, v(0), nat, spine(named("succ"), v(0))))},
		{"lets in bodies, each with the one ahead, under a function", joined(api.Lam, nat, within(3300, api.Let, v(0), nat, spine(named("succ"), v(0))))},
		{"lets in values", nested(1400, zero, func(x api.Term) api.Term { return joined(api.Let, nat, x, sum(v(0), v(0))) })},
		{"lets in values, under a function", joined(api.Lam, nat, nested(1400, v(0), func(x api.Term) api.Term { return joined(api.Let, nat, x, sum(v(0), v(0))) }))},
		{"lets in values, and in their bodies", nested(900, zero, func(x api.Term) api.Term { return joined(api.Let, nat, x, sum(v(0), joined(api.Let, nat, zero, v(1)))) })},
		{"lets in types", nested(4900, nat, func(x api.Term) api.Term { return joined(api.Let, x, zero, nat) })},
		{"a sum of lets", nested(2000, zero, func(x api.Term) api.Term { return sum(x, joined(api.Let, nat, zero, v(0))) })},
	}
}

// Large terms, with little fuel and much.
func TestLargeTerms(t *testing.T) {
	l := looker{world(t), levelNames}
	for _, c := range largeTerms() {
		if n := tree.Parts(&c.made); n < 8000 || n > 20000 {
			t.Errorf("%s: %d parts", c.what, n)
		}
		if _, got := l.of(t, c.made, 10); got != right {
			t.Errorf("%s: %s", c.what, got)
		}
		for _, fuel := range []int{0, muchFuel} {
			if _, err := Of(l.env, levelNames, c.made, fuel); fuel > 0 && err != nil {
				t.Errorf("%s with fuel %d: %s", c.what, fuel, said(err))
			}
		}
	}
}

// What has terms of its own for each two of its places: types that hang on a variable outside, lets with one.
func TestTermsThatAreSquared(t *testing.T) {
	v, nat, zero := tree.Variable, named("Nat"), named("zero")
	const n = 500
	telescope, applied := v(n), v(1)
	for i := range n {
		telescope, applied = joined(api.Pi, v(n-1-i), telescope), spine(applied, v(0))
	}
	l := looker{world(t), levelNames}
	for _, c := range []large{
		{"a function of many arguments of one type", joined(api.Lam, sort(param("u")), joined(api.Lam, telescope, joined(api.Lam, v(1), applied)))},
		{"lets, with a variable outside", joined(api.Lam, nat, within(n, api.Let, v(n), nat, zero))},
		{"products with products", within(n, api.Pi, nat, joined(api.Pi, nat, nat))},
	} {
		if _, got := l.of(t, c.made, 10); got != right {
			t.Errorf("%s: %s", c.what, got)
		}
	}
}

// Large types of the environment and of the context, asked for over and over.
func TestLargeTypes(t *testing.T) {
	e := world(t)
	nat := named("Nat")
	pis := func(x api.Term) api.Term { return joined(api.Pi, nat, x) }
	closed, open := nested(2000, spine(named("P"), tree.Variable(0)), pis), nested(2000, spine(tree.Variable(2000), tree.Variable(0)), pis)
	for _, d := range []api.Decl{
		{Kind: api.Def, Name: "Large", Type: sort(api.Level{}), Value: joined(api.Pi, closed, closed)},
		{Kind: api.Axiom, Name: "large", Type: named("Large")},
		{Kind: api.Axiom, Name: "small", Type: closed},
	} {
		e.Put(d, nil, api.Term{})
	}
	inner := nested(2000, tree.Variable(1), func(x api.Term) api.Term { return spine(tree.Variable(0), x) })
	for _, c := range []large{
		{"of the environment", nested(3000, named("small"), func(x api.Term) api.Term { return spine(named("large"), x) })},
		{"of the context", joined(api.Lam, parsed(t, "(pi (const Nat) (sort 0))"), joined(api.Lam, open, joined(api.Lam, joined(api.Pi, term.Lift(open, 1, 0), term.Lift(open, 2, 0)), inner)))},
	} {
		ss, err := Of(e, nil, c.made, 100)
		if err != nil {
			t.Errorf("%s: %s", c.what, said(err))
			continue
		}
		typ, _ := check.Infer(e, nil, nil, c.made, 100)
		if why := (looker{e, nil}).refuses(ss, c.made, typ); why != "" {
			t.Errorf("%s: %.200s", c.what, why)
		}
	}
}

// doubled is lets of numbers, each of which is worth twice the one ahead, around a term.
func doubled(n int, inner api.Term) api.Term {
	return joined(api.Let, named("Nat"), named("zero"), within(n, api.Let, inner, named("Nat"), sum(tree.Variable(0), tree.Variable(0))))
}

// What grows beyond what the document speaks of, or what could be told: every call ends, with steps or with a fault.
func TestTermsThatGrow(t *testing.T) {
	e := world(t)
	v, nat, zero := tree.Variable, named("Nat"), named("zero")
	double := sort(succ(succ(api.Level{})))
	for _, c := range []large{
		{"a value that has doubled often", doubled(80, v(0))},
		{"a type with such a value", doubled(80, spine(named("p"), v(0)))},
		{"very many values that double", doubled(2400, v(0))},
		{"a level that has doubled often", joined(api.Let, double, sort(succ(api.Level{})), within(80, api.Let, v(0), double, joined(api.Pi, v(0), v(1))))},
		{"pairs of one and the same part", nested(80, nat, func(x api.Term) api.Term { return joined(api.Pi, x, x) })},
		{"sums of one and the same part", nested(80, zero, func(x api.Term) api.Term { return sum(x, x) })},
		{"large sums of one and the same part", nested(14, zero, func(x api.Term) api.Term { return sum(x, x) })},
		{"a great number", within(40000, api.App, zero, named("succ"))},
		{"very many functions", within(40000, api.Lam, zero, nat)},
		{"very many lets", within(40000, api.Let, zero, nat, zero)},
		{"far more functions", within(300000, api.Lam, zero, nat)},
	} {
		ss, err := Of(e, nil, c.made, 1000)
		if got := said(err); got != right && got != "FTired" || (ss == nil) != (err != nil) {
			t.Errorf("%s: %s, with %d steps", c.what, got, len(ss))
		}
	}
	wrong := joined(api.Lam, v(0), nested(80, nat, func(x api.Term) api.Term { return joined(api.Pi, x, x) }))
	if _, err := Of(e, nil, wrong, 1000); said(err) != "FVar" {
		t.Errorf("what is wrong ahead of what is too large: %s", said(err))
	}
}

// functions are lets, one within another, each of whose values stands under two binders of different types: there are twice as
// many contexts for each let.
func functions(n int, value api.Term) api.Term {
	return nested(n, value, func(x api.Term) api.Term {
		return joined(api.Let, named("Nat"), x, spine(named("both2"), joined(api.Lam, named("Nat"), tree.Variable(1)), joined(api.Lam, named("Bool"), tree.Variable(1))))
	})
}

// What would take up more than there may be is given up, while little of it is there. (Here there may be less than Of has.)
func TestDerivationsThatAreTooLarge(t *testing.T) {
	e := world(t)
	for _, c := range []large{
		{"lets that ask for ever more contexts", functions(60, named("zero"))},
		{"such lets, in a great context", within(3000, api.Lam, functions(100, tree.Variable(2999)), named("Nat"))},
	} {
		if _, err := check.Infer(e, nil, nil, c.made, 1000); err != nil {
			t.Errorf("%s: check.Infer: %s", c.what, said(err))
		}
		ss, err := derived(e, c.made, 1000, 1<<28)
		if ss != nil || said(err) != "FTired" {
			t.Errorf("%s: %s, with %d steps", c.what, said(err), len(ss))
		}
	}
	made := functions(10, named("zero")) // asks for some 15000 steps
	if ss, err := derived(e, made, 1000, 15000*stepBytes); ss != nil || said(err) != "FTired" {
		t.Errorf("ten lets, in too little room: %s, with %d steps", said(err), len(ss))
	}
	if ss, err := derived(e, made, 1000, 30000*stepBytes); said(err) != right || len(ss) < 15000 {
		t.Errorf("ten lets: %s, with %d steps", said(err), len(ss))
	}
}

// Lets whose values stand under binders: steps for each context. What has been derived once is not derived again.
func TestLetsUnderBinders(t *testing.T) {
	l := looker{world(t), levelNames}
	v, nat := tree.Variable, named("Nat")
	twice := func(inner api.Term) api.Term {
		return nested(60, inner, func(x api.Term) api.Term {
			used := spine(joined(api.Lam, nat, v(1)), named("zero"))
			return joined(api.Let, nat, x, sum(used, used))
		})
	}
	for _, c := range []struct {
		large
		most int // steps
	}{
		{large{"one context for each let", nested(200, named("f"), func(x api.Term) api.Term {
			return joined(api.Let, named("Unary"), x, joined(api.Lam, nat, spine(v(1), spine(v(1), v(0)))))
		})}, 100000},
		{large{"one context for each let, twice", twice(named("n"))}, 30000},
		{large{"one context for each let, twice, under a function", joined(api.Lam, nat, twice(v(0)))}, 30000},
		{large{"twice as many contexts for each let", functions(9, named("zero"))}, 20000},
	} {
		ss, got := l.of(t, c.made, 100)
		if got != right || len(ss) > c.most {
			t.Errorf("%s: %s, %d steps", c.what, got, len(ss))
		}
	}
}

// A type that takes many steps, asked for over and over: these are taken once.
func TestSlowTypes(t *testing.T) {
	e := world(t)
	for _, d := range declared(t, `(def thirty () (const Nat) `+num(30)+`)
(def mul () (pi (const Nat) (pi (const Nat) (const Nat))) (lam (const Nat) (lam (const Nat) (app (app (app (app (const Nat.rec (s 0)) (lam (const Nat) (const Nat))) (const zero)) (lam (const Nat) (app (const add) #2))) #0))))
(def slow () (pi (const Nat) (const Type)) (lam (const Nat) (app (app (app (app (const Nat.rec (s (s 0))) (lam (const Nat) (const Type))) (sort 0)) (lam (const Nat) (lam (const Type) #0))) (app (app (const mul) (const thirty)) #0))))
(axiom h () (pi (const Nat) (app (const slow) #0)))`) {
		e.Put(d, nil, api.Term{})
	}
	product := within(3000, api.Pi, spine(named("h"), named("thirty")), spine(named("h"), named("thirty")))
	l := looker{e, nil}
	if _, steps, err := e.Whnf(spine(named("slow"), named("thirty")), muchFuel); err != nil || steps < 5000 {
		t.Errorf("the type takes %d steps: %s", steps, said(err))
	}
	if _, err := Of(l.env, nil, product, muchFuel); err != nil {
		t.Errorf("Of a product: %s", said(err))
	}
	l.of(t, within(3, api.Pi, spine(named("h"), named("thirty")), spine(named("h"), named("thirty"))), muchFuel)
}

// Definitions in an environment that stand in themselves: every call ends, whatever the fuel.
func TestEndlessTypes(t *testing.T) {
	e := world(t)
	for _, d := range declared(t, `(def loop () (sort (s 0)) (const loop))
(def grows () (sort (s 0)) (app (const grows) (const grows)))
(def arrows () (sort (s 0)) (pi (const Nat) (const arrows)))
(def wide () (sort (s 0)) (pi (const wide) (const wide)))
(def ranks (u) (sort (s u)) (const ranks (max u u)))
(axiom l () (const loop)) (axiom g2 () (const grows)) (axiom more () (const arrows)) (axiom w () (const wide)) (axiom r (u) (const ranks u))`) {
		e.Put(d, nil, api.Term{})
	}
	l := looker{e, levelNames}
	for _, fuel := range []int{math.MinInt, -1, 0, 1, 10, 1000, 100000} {
		for text, want := range map[string]string{
			"(const l)": right, "(const r u)": right, "(lam (const Nat) (const w))": right,
			"(app (const l) (const zero))": "FTired", "(lam (const l) #0)": "FTired", "(app (const g2) (const zero))": "FTired", "(app (const succ) (const l))": "FTired", "(app (const succ) (const more))": "FTired",
			"(let (const loop) (const l) #0)": "FTired", "(let (const wide) (const w) #0)": "FTired", "(app (const r u) (const zero))": "FTired", "(app (const succ) (const r (max u v)))": "FTired",
		} {
			if _, err := Of(l.env, levelNames, parsed(t, text), fuel); said(err) != want {
				t.Errorf("Of(%s) with fuel %d: %s, want %s", text, fuel, said(err), want)
			}
		}
	}
	many := nested(2000, named("more"), func(x api.Term) api.Term { return spine(x, named("zero")) })
	if ss, err := Of(e, nil, many, 1); err != nil || term.Print(ss[len(ss)-1].Type) != "(const arrows)" {
		t.Errorf("a function of ever more arguments: %s", said(err))
	}
}

// Whatever an environment and the parameters hold, no call panics.
func TestWhateverThereIs(t *testing.T) {
	texts := []string{
		"(axiom x () #3)", "(axiom x () #0)", "(axiom x (u u) (pi (sort u) (sort v)))", "(axiom x () (pi #0 (pi #1 #7)))", "(def x () (const y) (const z))", "(def x () (const x) (const x))", "(def x () #0 #1)",
		"(def x (u) (pi (sort u) (const x u)) (lam #0 (const x)))", "(def x () (pi #0 (const x)) (lam #0 (app #1 #2)))", "(def x () (sort 0) (pi (const x) #5))", "(axiom x () (sort w))", "(axiom x () (let (sort 0) #4 #0))",
		"(inductive x () 3 (const x) (ctor c (const c)) (ctor d #5))", "(inductive x (u v) 1 (pi (sort u) (sort v)) (ctor c (pi (sort w) (app (const x u v) #4))))", "(axiom x () (const x)) (def c () (pi (const x) #0) #0)",
	}
	terms := []string{
		"#0", "#99999", "(const x)", "(const x u)", "(const x 0 0)", "(const c)", "(const x.rec)", "(const x.rec u v)", "(app (const x) (const x))", "(app (const c) (const x))", "(app (const x u v) (sort 0))",
		"(app (app (const x) (const x)) (const x))", "(lam (const x) #0)", "(lam (sort 0) (const x))", "(lam (sort 0) (lam (sort 0) (app (const x) #0)))", "(pi (const x) (const x))", "(pi (sort 0) (const x))", "(let (const x) (const x) #0)",
		"(let (sort (s 0)) (sort 0) (const x))", "(let (sort (s 0)) (sort 0) (lam (const x) (const c)))", "(lam (sort 0) (let (sort (s 0)) (sort 0) (app (const x) #1)))", "(lam (sort (s 0)) (pi (const x) (const x)))",
		"(sort (max a (max b (max c (max d (max e f))))))",
	}
	names := [][]string{nil, {"u"}, {"u", "u"}, {"a", "b", "c", "d", "e", "f"}, {"a", "b", "c", "d", "e", "f", "g", "u", "v", "w"}, {""}}
	for _, text := range texts {
		for _, env := range []*reduce.Env{held(t, text), nil, reduce.New()} {
			for _, made := range terms {
				for _, params := range names {
					for _, fuel := range []int{0, 1, 50, 100000} {
						ss, err := Of(env, params, parsed(t, made), fuel)
						if _, inferErr := check.Infer(env, params, nil, parsed(t, made), fuel); inferErr != nil && said(err) != said(inferErr) || (ss == nil) != (err != nil) {
							t.Errorf("%s: Of(%s): %s, with %d steps; check.Infer: %s", text, made, said(err), len(ss), said(inferErr))
						}
					}
				}
			}
		}
	}
}

// What no well-formed tree is makes no call panic, either.
func TestTreesThatCannotBe(t *testing.T) {
	e := world(t)
	for kind := -1; kind < 10; kind++ {
		for n := range 4 {
			odd := api.Term{Kind: kind, N: -1, Name: "Nat.rec", Args: make([]api.Term, n), Levels: make([]api.Level, n)}
			level := api.Level{Kind: kind, Name: "u", Args: make([]api.Level, n)}
			for i, made := range []api.Term{
				odd, spine(odd, odd), spine(named("succ"), odd), spine(odd, named("zero")), joined(api.Lam, odd, odd), joined(api.Lam, named("Nat"), odd), joined(api.Pi, odd, odd), joined(api.Let, odd, odd, odd),
				joined(api.Let, named("Nat"), named("zero"), odd), sort(level), named("id", level), named("id", level, level), named("bad"), joined(api.Lam, named("bad"), tree.Variable(0)), spine(named("bad"), named("bad")),
				{Kind: api.Var, N: -1}, {Kind: api.Var, N: math.MinInt}, {Kind: api.Var, N: math.MaxInt},
			} {
				env := e
				if i%2 == 0 {
					env = e.With(api.Decl{Kind: api.Axiom, Name: "bad", Type: joined(api.Pi, odd, api.Term{Kind: api.Var, N: []int{math.MaxInt, math.MinInt, -1, 60000}[n]})})
				}
				for _, fuel := range []int{0, 100} {
					Of(env, levelNames, made, fuel)
					Of(env.With(api.Decl{Kind: api.Def, Name: "worse", Type: made, Value: made}), levelNames, spine(named("worse"), named("zero")), fuel)
				}
			}
		}
	}
}

// What is answered hangs on the arguments alone: not on what was asked ahead.
func TestAnswersAreTheSameAgain(t *testing.T) {
	e := world(t)
	texts := append(someTexts(), twoIsTwo)
	var first []string
	for round := range 3 {
		for i, text := range texts {
			ss, err := Of(e, levelNames, parsed(t, text), []int{0, 3, 1000}[i%3])
			told := said(err) + "\n" + stepTexts(ss)
			if round == 0 {
				first = append(first, told)
			} else if first[i] != told {
				t.Errorf("Of(%s): %s, and at first %s", text, told, first[i])
			}
		}
	}
}
