package check

import (
	"math"
	"strconv"
	"strings"
	"testing"

	"provekernel/api"
	"provekernel/reduce"
	"provekernel/term"
	"provekernel/tree"
)

// nested puts a term into itself, so many times.
func nested(n int, inner api.Term, around func(t api.Term) api.Term) api.Term {
	for range n {
		inner = around(inner)
	}
	return inner
}

// large: a term of many parts, and its type's text, or the fault that is told of it.
type large struct {
	what string
	made api.Term
	want string
}

// repeated is a text around itself, so many times: opening brackets, the inside, closing ones.
func repeated(n int, open, inner, end string) string {
	return strings.Repeat(open, n) + inner + strings.Repeat(end, n)
}

// largeTerms: about as deep and as large as the document allows, with their types.
func largeTerms() []large {
	nat, zero := named("Nat"), named("zero")
	sum := func(x, y api.Term) api.Term { return spine(named("add"), x, y) }
	around := func(n int, kind int, inner api.Term, ahead ...api.Term) api.Term {
		return nested(n, inner, func(x api.Term) api.Term { return node(kind, append(ahead[:len(ahead):len(ahead)], x)...) })
	}
	return []large{
		{"a number", around(9900, api.App, zero, named("succ")), "(const Nat)"},
		{"functions", around(6000, api.Lam, zero, nat), repeated(6000, "(pi (const Nat) ", "(const Nat)", ")")},
		{"functions, with the outermost variable", around(6000, api.Lam, tree.Variable(5999), nat), repeated(6000, "(pi (const Nat) ", "(const Nat)", ")")},
		{"products", around(4900, api.Pi, nat, nat), "(sort " + repeated(4900, "(imax (s 0) ", "(s 0)", ")") + ")"},
		{"products of products", nested(4900, nat, func(x api.Term) api.Term { return node(api.Pi, x, nat) }), "(sort " + repeated(4900, "(imax ", "(s 0)", " (s 0))") + ")"},
		{"sums on the left", nested(4900, zero, func(x api.Term) api.Term { return sum(x, zero) }), "(const Nat)"},
		{"sums on the right", nested(4900, zero, func(x api.Term) api.Term { return sum(zero, x) }), "(const Nat)"},
		{"functions that are applied", nested(3300, nat, func(x api.Term) api.Term {
			return spine(node(api.Lam, sort(succ(api.Level{})), tree.Variable(0)), x)
		}), "(sort (s 0))"},
		{"lets in bodies", around(4900, api.Let, tree.Variable(0), nat, zero), "(const Nat)"},
		{"lets in bodies, each with the one ahead", node(api.Let, nat, zero, around(3300, api.Let, tree.Variable(0), nat, spine(named("succ"), tree.Variable(0)))), "(const Nat)"},
		{"lets in bodies, each with twice the one ahead", node(api.Let, nat, zero, around(2400, api.Let, tree.Variable(0), nat, sum(tree.Variable(0), tree.Variable(0)))), "(const Nat)"},
		{"lets in values", nested(2800, zero, func(x api.Term) api.Term { return node(api.Let, nat, x, sum(tree.Variable(0), tree.Variable(0))) }), "(const Nat)"},
		{"lets in values, under functions", nested(2200, named("f"), func(x api.Term) api.Term {
			return node(api.Let, named("Unary"), x, node(api.Lam, nat, spine(tree.Variable(1), spine(tree.Variable(1), tree.Variable(0)))))
		}), "(pi (const Nat) (const Nat))"},
		{"lets in types", nested(3000, nat, func(x api.Term) api.Term { return node(api.Let, x, zero, nat) }), "(sort (s 0))"},
		{"a function of many arguments", wide(2400), "(pi " + repeated(2400, "(pi (const Nat) ", "(sort 0)", ")") + " (pi " + wideType(2400) + " " + repeated(2400, "(app ", "#1", " (const zero))") + "))"},
	}
}

// wide is a function of a relation of so many numbers, and of a proof that it holds of all: that proof, of zeros.
func wide(n int) api.Term {
	nat := named("Nat")
	pis := func(x api.Term) api.Term { return node(api.Pi, nat, x) }
	holds, used := tree.Variable(n), tree.Variable(0)
	for i := range n {
		holds, used = spine(holds, tree.Variable(n-1-i)), spine(used, named("zero"))
	}
	return node(api.Lam, nested(n, sort(api.Level{}), pis), node(api.Lam, nested(n, holds, pis), used))
}

// wideType is the text of that proof's type.
func wideType(n int) string {
	text := "#" + strconv.Itoa(n)
	for i := range n {
		text = "(app " + text + " #" + strconv.Itoa(n-1-i) + ")"
	}
	return repeated(n, "(pi (const Nat) ", text, ")")
}

func TestLargeTerms(t *testing.T) {
	e := world(t)
	for _, c := range largeTerms() {
		if n := tree.Parts(&c.made); n < 9000 || n > 20000 {
			t.Errorf("%s has %d parts", c.what, n)
		}
		for _, fuel := range []int{10, 100000} {
			if got := (asked{e, nil, fuel}).told(t, c.made); got != c.want {
				t.Errorf("%s: %.80s, want %.80s", c.what, got, c.want)
			}
		}
		asked{e, nil, 0}.told(t, c.made)
		Sort(e, nil, nil, c.made, 10)
		Decl(e, api.Decl{Kind: api.Def, Name: "x", Type: c.made, Value: c.made}, 10)
		Decl(e, api.Decl{Kind: api.Def, Name: "x", Type: named("Nat"), Value: c.made}, 10)
	}
}

// A large type that a context and an environment have, asked for over and over.
func TestLargeTypes(t *testing.T) {
	e := world(t)
	nat := named("Nat")
	pis := func(x api.Term) api.Term { return node(api.Pi, nat, x) }
	closed, open := nested(2000, spine(named("P"), tree.Variable(0)), pis), nested(2000, spine(tree.Variable(2000), tree.Variable(0)), pis)
	for _, d := range []api.Decl{
		{Kind: api.Def, Name: "Large", Type: sort(api.Level{}), Value: node(api.Pi, closed, term.Lift(closed, 1, 0))},
		{Kind: api.Axiom, Name: "large", Type: named("Large")},
		{Kind: api.Axiom, Name: "small", Type: closed},
	} {
		e.Put(d, nil, api.Term{})
	}
	ctx := []api.Term{parsed(t, "(pi (const Nat) (sort 0))"), open, node(api.Pi, term.Lift(open, 1, 0), term.Lift(open, 2, 0))}
	for _, c := range []large{
		{"of the environment", nested(3000, named("small"), func(x api.Term) api.Term { return spine(named("large"), x) }), term.Print(closed)},
		{"of the context", nested(3000, tree.Variable(1), func(x api.Term) api.Term { return spine(tree.Variable(0), x) }), term.Print(term.Lift(open, 2, 0))},
	} {
		if got := (asked{e, ctx, 100}).told(t, c.made); got != c.want {
			t.Errorf("%s: %.80s, want %.80s", c.what, got, c.want)
		}
	}
}

// What grows without bounds is given up: types, levels, and terms that have more parts than any text.
func TestTermsThatGrow(t *testing.T) {
	e := world(t)
	nat, zero := named("Nat"), named("zero")
	doubled := func(n int, inner api.Term) api.Term {
		return nested(n, inner, func(x api.Term) api.Term {
			return node(api.Let, nat, spine(named("add"), tree.Variable(0), tree.Variable(0)), x)
		})
	}
	for _, c := range []large{
		{"a type with a value that has doubled often", node(api.Let, nat, zero, doubled(80, spine(named("p"), tree.Variable(0)))), "FTired"},
		{"a domain with such a value", node(api.Let, nat, zero, doubled(80, node(api.Lam, spine(named("P"), tree.Variable(0)), tree.Variable(0)))), "FTired"},
		{"a level that has doubled often", node(api.Let, sort(succ(succ(api.Level{}))), sort(succ(api.Level{})), nested(80, tree.Variable(0), func(x api.Term) api.Term {
			return node(api.Let, sort(succ(succ(api.Level{}))), node(api.Pi, tree.Variable(0), tree.Variable(1)), x)
		})), "FTired"},
		{"pairs of one and the same part", nested(80, nat, func(x api.Term) api.Term { return node(api.Pi, x, x) }), "FTired"},
		{"sums of one and the same part", nested(80, zero, func(x api.Term) api.Term { return spine(named("add"), x, x) }), "FTired"},
		{"functions of one and the same part", nested(80, zero, func(x api.Term) api.Term { return node(api.Lam, nat, spine(named("add"), x, x)) }), "FArg"},
		{"a great number", nested(300000, zero, func(x api.Term) api.Term { return spine(named("succ"), x) }), "FTired"},
		{"very many functions", nested(300000, zero, func(x api.Term) api.Term { return node(api.Lam, nat, x) }), "FTired"},
		{"very many lets in values", nested(300000, zero, func(x api.Term) api.Term { return node(api.Let, nat, x, tree.Variable(0)) }), "FTired"},
		{"very many products in types", nested(300000, nat, func(x api.Term) api.Term { return node(api.Pi, x, nat) }), "FTired"},
		{"very many arguments", nested(300000, named("add"), func(x api.Term) api.Term { return spine(x, zero) }), "FTired"},
		{"a doubled value that no type has", node(api.Let, nat, zero, doubled(80, tree.Variable(0))), "(const Nat)"},
		{"what is wrong ahead of what is too large", node(api.Lam, tree.Variable(0), nested(80, nat, func(x api.Term) api.Term { return node(api.Pi, x, x) })), "FVar"},
	} {
		if got := (asked{e, nil, 1000}).told(t, c.made); got != c.want {
			t.Errorf("%s: %.80s, want %s", c.what, got, c.want)
		}
	}
}

// Definitions in an environment that stand in themselves: every call ends, whatever the fuel.
func TestEndlessTypes(t *testing.T) {
	e := world(t)
	for _, d := range declared(t, `(def loop () (sort (s 0)) (const loop))
(def grows () (sort (s 0)) (app (const grows) (const grows)))
(def arrows () (sort (s 0)) (pi (const Nat) (const arrows)))
(def wide () (sort (s 0)) (pi (const wide) (const wide)))
(def ranks (u) (sort (s u)) (const ranks (max u u)))
(axiom l () (const loop)) (axiom g () (const grows)) (axiom a () (const arrows)) (axiom w () (const wide)) (axiom r (u) (const ranks u))`) {
		e.Put(d, nil, api.Term{})
	}
	for _, fuel := range []int{math.MinInt, -1, 0, 1, 10, 1000, 100000} {
		asked{e, nil, fuel}.tellsAll(t, []pair{
			{"(const l)", "(const loop)"},
			{"(app (const l) (const zero))", "FTired"},
			{"(lam (const l) #0)", "FTired"},
			{"(app (const g) (const zero))", "FTired"},
			{"(app (const succ) (const l))", "FTired"},
			{"(app (const succ) (const a))", "FTired"},
			{"(let (const loop) (const l) #0)", "FTired"},
			{"(let (const wide) (const w) #0)", "FTired"},
			{"(app (const r u) (const zero))", "FTired"},
			{"(app (const succ) (const r (max u v)))", "FTired"},
		})
	}
	many := nested(2000, named("a"), func(x api.Term) api.Term { return spine(x, named("zero")) })
	if got := (asked{e, nil, 1}).told(t, many); got != "(const arrows)" {
		t.Errorf("a function of ever more arguments: %.80s", got)
	}
}

// Whatever an environment, the parameters and a context hold, no call panics.
func TestWhateverThereIs(t *testing.T) {
	texts := []string{
		"(axiom x () #3)", "(axiom x (u u) (pi (sort u) (sort v)))", "(axiom x () (pi #0 (pi #1 #7)))", "(def x () (const y) (const z))", "(def x () (const x) (const x))",
		"(def x (u) (pi (sort u) (const x u)) (lam #0 (const x)))", "(inductive x () 3 (const x) (ctor c (const c)) (ctor d #5))",
		"(inductive x (u v) 1 (pi (sort u) (sort v)) (ctor c (pi (sort w) (app (const x u v) #4))))",
	}
	terms := []string{
		"#0", "#1", "#99999", "(sort (max a (max b (max c (max d (max e f))))))", "(const x)", "(const x u)", "(const x 0 0)", "(const c)", "(const x.rec)", "(const x.rec u v)",
		"(app (const x) #0)", "(app (const x u v) (sort 0))", "(app (app (const x) (const x)) (const x))", "(lam (const x) #0)", "(pi (const x) (const x))", "(let (const x) (const x) #0)",
		"(lam #0 (lam #1 (app #0 #2)))", "(app #0 #1)", "(app #1 #0)", "(let #0 #1 #0)", "(pi #0 #1)",
	}
	contexts := [][]string{nil, {"#0"}, {"(const x)", "#99999"}, {"(sort w)", "(pi #3 #3)", "#0"}, {"(const none)", "(app #0 #0)", "(lam (sort u) #0)"}}
	names := [][]string{nil, {"u"}, {"u", "u"}, {"a", "b", "c", "d", "e", "f"}, {"a", "b", "c", "d", "e", "f", "g", "u", "v", "w"}, {""}}
	for _, text := range texts {
		e := reduce.New()
		for _, d := range declared(t, text) {
			e.Put(d, []string{"u", "v"}, parsed(t, "(pi (const x) (pi #4 (sort w)))"))
		}
		for _, env := range []*reduce.Env{e, nil} {
			for i, made := range parsedAll(t, terms) {
				Decl(env, api.Decl{Kind: i % 5, Name: "new", Params: names[i%len(names)], Type: made, Value: made}, 50)
				for _, ctx := range contexts {
					for _, params := range names {
						Infer(env, params, parsedAll(t, ctx), made, 50)
						Sort(env, params, parsedAll(t, ctx), made, 50)
					}
				}
			}
		}
	}
}

// What no well-formed tree is makes no call panic, either.
func TestTreesThatCannotBe(t *testing.T) {
	e := world(t)
	for kind := -1; kind < 10; kind++ {
		for n := range 4 {
			odd := api.Term{Kind: kind, N: -1, Name: "Nat.rec", Args: make([]api.Term, n), Levels: make([]api.Level, n)}
			level := api.Level{Kind: kind, Name: "u", Args: make([]api.Level, n)}
			for _, made := range []api.Term{
				odd, spine(odd, odd), spine(named("succ"), odd), spine(odd, named("zero")), node(api.Lam, odd, odd), node(api.Lam, named("Nat"), odd), node(api.Pi, odd, odd),
				node(api.Let, odd, odd, odd), node(api.Let, named("Nat"), named("zero"), odd), sort(level), named("id", level), named("id", level, level),
				{Kind: api.Var, N: -1}, {Kind: api.Var, N: math.MinInt}, {Kind: api.Var, N: math.MaxInt},
			} {
				for _, ctx := range [][]api.Term{nil, {odd}, {named("Nat"), odd, made}, {{Kind: api.Var, N: math.MaxInt}, {Kind: api.Var, N: -5}}} {
					Infer(e, levelNames, ctx, made, 100)
					Sort(e, levelNames, ctx, made, 100)
					Infer(e, levelNames, ctx, tree.Variable(0), 100)
					Infer(e, levelNames, ctx, node(api.Lam, tree.Variable(0), tree.Variable(1)), 100)
				}
				Decl(e, api.Decl{Kind: kind, Name: "x", Type: made, Value: made}, 100)
				Decl(e, api.Decl{Kind: api.Def, Name: "x", Type: named("Nat"), Value: made}, 100)
			}
		}
	}
}

// What is answered hangs on the arguments alone: not on what was asked ahead.
func TestAnswersAreTheSameAgain(t *testing.T) {
	e := world(t)
	texts := []string{twoIsTwo, "(const id u)", "(app (const g) (const n))", "(lam (const A) (app (const succ) #0))", "(let (const N) (const two) (app (const q) (app (const p) #0)))"}
	var first []string
	for round := range 3 {
		for i, made := range parsedAll(t, texts) {
			for fuel := range 20 {
				told := asked{e, nil, fuel}.told(t, made)
				if round == 0 {
					first = append(first, told)
				} else if first[i*20+fuel] != told {
					t.Errorf("Infer(%s) with fuel %d: %s, and at first %s", texts[i], fuel, told, first[i*20+fuel])
				}
			}
		}
	}
}
