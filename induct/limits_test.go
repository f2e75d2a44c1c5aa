package induct

import (
	"math"
	"slices"
	"strconv"
	"strings"
	"testing"

	"provekernel/api"
	"provekernel/reduce"
	"provekernel/tree"
)

// nested puts a term into itself, so many times.
func nested(n int, inner api.Term, around func(t api.Term) api.Term) api.Term {
	for range n {
		inner = around(inner)
	}
	return inner
}

// spine is (..(f a1) .. an), of the very terms.
func spine(f api.Term, as ...api.Term) api.Term {
	for _, a := range as {
		f = node(api.App, f, a)
	}
	return f
}

// arrows are n pi of one type, that has no variables, ahead of a term.
func arrows(n int, typ string, last api.Term) api.Term {
	domain := text(typ)
	return nested(n, last, func(t api.Term) api.Term { return node(api.Pi, domain, t) })
}

// counted are n variables, the outermost first, that stand outside of so many others.
func counted(n, outside int) []api.Term {
	var vs []api.Term
	for i := range n {
		vs = append(vs, tree.Variable(outside+n-1-i))
	}
	return vs
}

// familyOf is one A of that type, with constructors of these types.
func familyOf(arity int, typ api.Term, ctors ...api.Term) api.Decl {
	d := api.Decl{Kind: api.Inductive, Name: "A", Arity: arity, Type: typ}
	for i, c := range ctors {
		d.Ctors = append(d.Ctors, api.Ctor{Name: "c" + strconv.Itoa(i), Type: c})
	}
	return d
}

// large: a family of many parts, and what is told of it.
type large struct {
	what string
	d    api.Decl
	want string
}

// largeFamilies: about as deep and as large as the document allows.
func largeFamilies() []large {
	setOf, itself, number := text(set), text(a), text(nat)
	one := api.Level{Kind: api.Succ, Args: []api.Level{{}}}
	deepLevel := api.Level{}
	for range 299 {
		deepLevel = api.Level{Kind: api.Succ, Args: []api.Level{deepLevel}}
	}
	leveled := func(l api.Level) api.Term { return api.Term{Kind: api.Sort, Levels: []api.Level{l}} }
	params := func(n int) api.Term { return spine(itself, counted(n, 0)...) }
	return []large{
		{"many constructors", familyOf(0, setOf, slices.Repeat([]api.Term{itself}, 4500)...), right},
		{"many constructors that are wrong at last", familyOf(0, setOf, append(slices.Repeat([]api.Term{itself}, 4500), number)...), "FForm"},
		{"many arguments", familyOf(0, setOf, arrows(4500, nat, itself)), right},
		{"many recursive arguments", familyOf(0, setOf, arrows(2000, a, itself)), right},
		{"many arguments, the first of which must not stand there", familyOf(0, setOf, node(api.Pi, node(api.Pi, itself, number), arrows(6000, nat, itself))), "FPos"},
		{"many arguments, the last of which is too great", familyOf(0, setOf, arrows(6000, nat, node(api.Pi, text("(const Big)"), itself))), "FLevel"},
		{"many arguments of a proposition", familyOf(0, text(prop), arrows(4500, "(const False)", itself)), right},
		{"a recursive argument that is a function of many", familyOf(0, setOf, node(api.Pi, arrows(3000, nat, itself), itself)), right},
		{"an argument that is a function of many", familyOf(0, setOf, node(api.Pi, arrows(6000, nat, number), itself)), right},
		{"an argument that is a function of functions", familyOf(0, setOf, node(api.Pi, nested(4500, number, func(t api.Term) api.Term { return node(api.Pi, t, number) }), itself)), right},
		{"the family deep within an argument", familyOf(0, setOf, node(api.Pi, nested(4500, itself, func(t api.Term) api.Term { return node(api.Pi, t, number) }), itself)), "FPos"},
		{"many parameters", familyOf(1500, arrows(1500, nat, setOf), arrows(1500, nat, params(1500))), right},
		{"many parameters, of many constructors", familyOf(40, arrows(40, nat, setOf), slices.Repeat([]api.Term{arrows(40, nat, params(40))}, 120)...), right},
		{"many parameters, the last of which is another", familyOf(1500, arrows(1500, nat, setOf), arrows(1499, nat, node(api.Pi, setOf, spine(itself, append(counted(1499, 1), text("(const zero)"))...)))), "FForm"},
		{"many parameters, two of which are swapped", familyOf(1500, arrows(1500, nat, setOf), arrows(1500, nat, spine(itself, append(counted(1498, 2), tree.Variable(0), tree.Variable(1))...))), "FForm"},
		{"many indices", familyOf(0, arrows(1500, nat, setOf), arrows(1500, nat, params(1500))), right},
		{"many indices of a proposition", familyOf(0, arrows(1500, nat, text(prop)), arrows(1500, nat, params(1500))), right},
		{"many indices, with the family in the last", familyOf(0, arrows(1500, set, setOf), spine(itself, append(slices.Repeat([]api.Term{number}, 1499), spine(itself, slices.Repeat([]api.Term{number}, 1500)...))...)), "FForm"},
		{"too many parameters", familyOf(99, arrows(98, nat, setOf)), "FForm"},
		{"a great number among the indices", familyOf(0, arrows(1, nat, setOf), spine(itself, nested(4000, text("(const zero)"), func(t api.Term) api.Term { return spine(text("(const succ)"), t) }))), right},
		{"types deep in types", familyOf(0, node(api.Pi, nested(4500, number, func(t api.Term) api.Term { return node(api.Pi, t, number) }), setOf)), right},
		{"lets in an argument", familyOf(0, setOf, node(api.Pi, nested(3000, number, func(t api.Term) api.Term { return node(api.Let, number, text("(const zero)"), t) }), itself)), right},
		{"a deep level", familyOf(0, leveled(deepLevel), arrows(30, "(const Big)", itself)), right},
		{"a deep level of an argument", familyOf(0, leveled(one), node(api.Pi, leveled(deepLevel), itself)), "FLevel"},
	}
}

func TestLargeFamiliesOfAnyFuel(t *testing.T) {
	e := world(t)
	for _, c := range largeFamilies() {
		for _, fuel := range []int{100000, 1000, 0} {
			got := told(t, e, c.d, fuel)
			if strings.Contains(got, ":") {
				got = right
			}
			if got != c.want {
				t.Errorf("%s, fuel %d: %.80s, want %s", c.what, fuel, got, c.want)
			}
		}
	}
}

// What is as large as the document allows is not given up: the recursor of c has 20000 parts, but for a few.
func TestTheLargestRecursor(t *testing.T) {
	e := world(t)
	for _, c := range []struct {
		d       api.Decl
		recPart int // how many parts of the recursor there are for each of the constructor's arguments
	}{
		{familyOf(0, text(set), arrows(4990, nat, text(a))), 4},
		{familyOf(0, text(set), arrows(2490, a, text(a))), 8},
	} {
		_, typ, err := Decl(e, c.d, 0)
		if n := tree.Parts(&typ); err != nil || n < 19900 || n > 20000 {
			t.Errorf("a recursor of %d parts, %d for each argument (%v)", n, c.recPart, err)
		}
	}
}

// What is far larger than that ends, too.
func TestFamiliesThatAreTooLarge(t *testing.T) {
	e := world(t)
	setOf, itself, number := text(set), text(a), text(nat)
	pairs := nested(80, number, func(t api.Term) api.Term { return node(api.Pi, t, t) })
	many := arrows(2000, nat, itself)
	for _, c := range []large{
		{"very many recursive arguments", familyOf(0, setOf, arrows(20000, a, itself)), "FTired"},
		{"very many constructors", familyOf(0, setOf, slices.Repeat([]api.Term{itself}, 30000)...), "FTired"},
		{"very many constructors, each with many arguments", familyOf(0, setOf, slices.Repeat([]api.Term{many}, 300)...), "FTired"},
		{"very many indices", familyOf(0, arrows(30000, nat, setOf)), "FTired"},
		{"so many indices that the recursor alone is too large", familyOf(0, arrows(12000, nat, setOf)), "FTired"},
		{"very many parameters", familyOf(30000, arrows(30000, nat, setOf)), "FTired"},
		{"a type with more parts than there is room for", familyOf(0, node(api.Pi, pairs, setOf)), "FTired"},
		{"a constructor with more parts than there is room for", familyOf(0, setOf, node(api.Pi, pairs, itself)), "FTired"},
		{"a name that is known, of such a family", api.Decl{Name: "Nat", Type: pairs}, "FTwice"},
		{"parameters that are wrong, of such a family", api.Decl{Name: "A", Type: pairs, Params: []string{"u", "u"}}, "FParam"},
		{"very many parameters of levels", api.Decl{Name: "A", Type: pairs, Params: strings.Fields(strings.Repeat("u ", 100000))}, "FParam"},
	} {
		_, _, err := Decl(e, c.d, 100)
		if code, _ := api.Code(err); codeText(code) != c.want {
			t.Errorf("%s: %s, want %s", c.what, codeText(code), c.want)
		}
	}
}

// Definitions in an environment that stand in themselves: every call ends, whatever the fuel.
func TestEndlessDefinitions(t *testing.T) {
	e := world(t)
	for _, d := range declared(t, `(def loop () (sort (s 0)) (const loop))
(def grows () (pi (const Nat) (sort (s 0))) (lam (const Nat) (app (const grows) (app (const succ) #0))))
(def wide () (sort (s 0)) (pi (const wide) (const wide)))
(def kind () (const kind) (const kind))`) {
		e.Put(d, nil, api.Term{})
	}
	param := "() 1 (pi (const loop) (sort (s 0)))"
	for _, fuel := range []int{math.MinInt, -1, 0, 1, 10, 1000, 100000} {
		tellsAll(t, e, fuel, []pair{
			{of(set, "(pi (const loop) (const A))"), right},
			{of(set, "(pi (const wide) (pi (app (const grows) (const zero)) (const A)))"), right},
			{of(set, "(pi (const kind) (const A))"), "FTired"},
			{of("(pi (const kind) (sort 0))"), "FTired"},
			{familyText(param), right},
			{familyText(param, "(pi (const Nat) (app (const A) #0))"), "FTired"},
			{familyText(param, "(pi (const loop) (app (const A) #0))"), "FTired"},
			{familyText("() 1 (pi (const Nat) (sort (s 0)))", "(pi (const wide) (app (const A) (const zero)))"), "FTired"},
			{familyText("() 1 (pi (const Nat) (sort (s 0)))", "(pi (app (const grows) (const zero)) (app (const A) (const zero)))"), "FTired"},
		})
	}
}

// Whatever an environment holds, no call panics.
func TestWhateverThereIs(t *testing.T) {
	held := []string{
		"(axiom x () #3)", "(axiom x (u u) (pi (sort u) (sort v)))", "(axiom x () (pi #0 (pi #1 #7)))", "(def x () (const y) (const z))", "(def x () (const A) (const c))",
		"(def x () (sort 0) (lam (const x) (app #0 #5)))", "(inductive x () 3 (const x) (ctor c (const c)) (ctor d #5))", "(inductive x () 0 (sort (s 0)) (ctor d (const A)))",
	}
	types := []string{"(sort (s 0))", "(sort 0)", "(const x)", "(pi (const x) (sort 0))", "(pi (const x) (pi (app (const x) #0) (sort (s 0))))", "(pi (sort 0) (pi #0 (sort (s 0))))", "(pi #4 #5)", "(sort (imax u v))"}
	ctors := []string{
		a, "(pi (const A) (const A))", "(pi (const x) (const A))", "(pi (const x) (app (const A) #0))", "(pi (const x) (pi (app (const x) #0) (app (app (const A) #1) #0)))", "(app (const A) (const x))",
		"(pi (sort 0) (pi #0 (pi (app (app (const A) #1) #0) (app (app (const A) #2) #1))))", "(const x)", "#0", "(const c)", "(pi (const d) (const A))", "(let (const x) (const x) (const A))",
	}
	for _, holds := range held {
		e := reduce.New()
		e.Put(declared(t, holds)[0], []string{"u", "v"}, text("(pi (const x) (pi #4 (sort w)))"))
		for _, env := range []*reduce.Env{e, nil} {
			for i, typ := range types {
				for _, c := range ctors {
					for arity := range 4 {
						d := familyOf(arity, text(typ), text(c), text(ctors[i]))
						d.Params = []string{"u", "v"}[:arity%3]
						told(t, env, d, 50)
					}
				}
			}
		}
	}
}

// An environment that is not right may hold levels with any number of parameters, all of which would have to be tried: Decl ends.
func TestManyLevelParameters(t *testing.T) {
	zeros := func(n int) string {
		l := "0"
		for i := range n {
			l = "(imax p" + strconv.Itoa(i) + " " + l + ")"
		}
		return "(sort " + l + ")"
	}
	for n, want := range map[int]string{6: right, 60: "FTired"} {
		e := world(t)
		for _, d := range declared(t, "(axiom x () "+zeros(n)+") (axiom y () (pi (const Nat) "+zeros(n)+"))") {
			e.Put(d, nil, api.Term{})
		}
		for _, fuel := range []int{0, 100000} {
			tellsAll(t, e, fuel, []pair{
				{of(set, "(pi (const x) (const A))"), want},
				{of(prop, "(pi (const x) (const A))"), want},
				{of(set, "(pi (app (const y) (const zero)) (const A))"), want},
				{of("(pi (const x) (sort (s 0)))"), right},
			})
		}
	}
}

// What no well-formed tree is makes no call panic, either.
func TestTreesThatCannotBe(t *testing.T) {
	e := world(t)
	setOf, itself, number := text(set), text(a), text(nat)
	for _, arity := range []int{math.MinInt, -1, 2, math.MaxInt} {
		tells := codeText(api.FForm)
		if got := told(t, e, familyOf(arity, setOf, itself), 10); got != tells {
			t.Errorf("with %d parameters: %s", arity, got)
		}
	}
	for kind := -1; kind < 10; kind++ {
		for n := range 4 {
			odd := api.Term{Kind: kind, N: -1, Name: "A", Args: make([]api.Term, n), Levels: make([]api.Level, n)}
			level := api.Level{Kind: kind, Name: "u", Args: make([]api.Level, n)}
			leveled := api.Term{Kind: api.Sort, Levels: []api.Level{level}}
			for _, d := range []api.Decl{
				familyOf(0, odd, itself), familyOf(1, node(api.Pi, odd, setOf), node(api.Pi, odd, spine(itself, tree.Variable(0)))), familyOf(0, setOf, odd), familyOf(0, setOf, node(api.Pi, odd, itself)),
				familyOf(0, setOf, node(api.Pi, node(api.Pi, odd, itself), itself)), familyOf(0, node(api.Pi, number, setOf), spine(itself, odd)), familyOf(0, node(api.Pi, number, odd)), familyOf(0, leveled, itself),
				familyOf(0, setOf, node(api.Pi, leveled, itself)), familyOf(0, setOf, api.Term{Kind: api.Const, Name: "A", Levels: []api.Level{level}}), {}, {Kind: kind, Type: setOf}, {Kind: kind, Name: "A", Type: setOf, Params: []string{""}},
				{Kind: api.Inductive, Name: "A", Type: setOf, Params: []string{"u"}, Ctors: []api.Ctor{{}, {Name: "c", Type: odd}}},
			} {
				Decl(e, d, 100)
				Decl(nil, d, 100)
				Decl(&reduce.Env{}, d, 100)
			}
		}
	}
}

// What is answered hangs on the arguments alone: not on what was asked ahead.
func TestAnswersAreTheSameAgain(t *testing.T) {
	e := world(t)
	var first []string
	for round := range 3 {
		at := 0
		for seed := range int64(100) {
			d := newMaker(seed).family()
			for _, fuel := range []int{0, 2, 100} {
				said := told(t, e, d, fuel)
				if round == 0 {
					first = append(first, said)
				} else if first[at] != said {
					t.Errorf("Decl(%s) with fuel %d: %s, and at first %s", declText(d), fuel, said, first[at])
				}
				at++
			}
		}
	}
}
