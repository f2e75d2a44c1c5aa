package reduce

import (
	"math"
	"reflect"
	"strconv"
	"strings"
	"testing"

	"provekernel/api"
	"provekernel/term"
	"provekernel/tree"
)

func node(kind int, parts ...api.Term) api.Term { return api.Term{Kind: kind, Args: parts} }

func named(name string, ls ...api.Level) api.Term {
	return api.Term{Kind: api.Const, Name: name, Levels: ls}
}

func param(name string) api.Level { return api.Level{Kind: api.Param, Name: name} }

// spine is (..(f a1) .. an), of the very terms, not of copies: deep terms are built by it.
func spine(f api.Term, as ...api.Term) api.Term {
	for _, a := range as {
		f = node(api.App, f, a)
	}
	return f
}

// nested puts a term into itself, so many times.
func nested(n int, inner api.Term, around func(t api.Term) api.Term) api.Term {
	for range n {
		inner = around(inner)
	}
	return inner
}

// answers of all calls with that fuel: no panic, and the zero values with a fault.
func answers(t *testing.T, e *Env, what string, made api.Term, fuel int) [3]int {
	t.Helper()
	var codes [3]int
	for i, reduce := range []reducer{(*Env).Whnf, (*Env).Normal} {
		got, steps, err := reduce(e, made, fuel)
		code, at := api.Code(err)
		if steps < 0 || steps > fuel || code != 0 && code != api.FTired || at != 0 {
			t.Errorf("%s with fuel %d: %d steps, fault %d at %d", what, fuel, steps, code, at)
		}
		if err != nil && (steps != 0 || !reflect.DeepEqual(got, api.Term{})) {
			t.Errorf("%s with fuel %d: with a fault %d steps, and a term", what, fuel, steps)
		}
		codes[i] = code
	}
	equal, err := e.Equal(made, made, fuel)
	code, at := api.Code(err)
	if code != 0 && code != api.FTired || at != 0 || equal == (err != nil) {
		t.Errorf("%s with fuel %d: Equal to itself %v, fault %d at %d", what, fuel, equal, code, at)
	}
	codes[2] = code
	return codes
}

var fuels = [...]int{0, 1, 2, 10, 1000, 100000}

var allTired = [3]int{api.FTired, api.FTired, api.FTired}

// endless terms, in an environment in which definitions stand in themselves.
func endless(t *testing.T, e *Env) map[string]api.Term {
	put(t, e, `(def same () (const Nat) (const same))
(def wide () (const Nat) (app (const wide) (const wide)))
(def major () (const Nat) (app (app (app (app (const Nat.rec u) (const n)) (const n)) (const add)) (const major)))
(def minor () (const Nat) (app (app (app (app (const Nat.rec u) (const n)) (const minor)) (const add)) (const zero)))
(def grows (u) (sort u) (const grows (s u)))
(def doubles (u) (sort u) (const doubles (max u u)))
(def ping (u v) (sort u) (app (const pong v u) (const n)))
(def pong (u v) (sort u) (lam (const Nat) (let (const Nat) #0 (const ping u v))))`, nil, "")
	nat := named("Nat")
	many := nested(1000, tree.Variable(0), func(x api.Term) api.Term { return spine(x, tree.Variable(0)) })
	wider := node(api.Lam, nat, spine(many, tree.Variable(0)))
	drops := node(api.Lam, nat, spine(node(api.Lam, nat, spine(tree.Variable(1), tree.Variable(1))), many))
	return map[string]api.Term{
		"same":                    named("same"),
		"wide":                    named("wide"),
		"major":                   named("major"),
		"minor":                   named("minor"),
		"grows":                   named("grows", param("v")),
		"doubles":                 named("doubles", param("v")),
		"ping":                    named("ping", param("v"), api.Level{}),
		"omega":                   parsed(t, "(app (lam (const Nat) (app #0 #0)) (lam (const Nat) (app #0 #0)))"),
		"omega of three":          parsed(t, "(app (lam (const Nat) (app (app #0 #0) #0)) (lam (const Nat) (app (app #0 #0) #0)))"),
		"omega that grows much":   spine(wider, wider),
		"omega that drops much":   spine(drops, drops),
		"omega by let":            parsed(t, "(let (const Nat) (lam (const Nat) (app #0 #0)) (app #0 #0))"),
		"omega in a major":        parsed(t, app("(const Nat.rec u)", "#0", "#1", "#2", "(app (lam (const Nat) (app #0 #0)) (lam (const Nat) (app #0 #0)))")),
		"omega under far binders": nested(5000, parsed(t, "(app (lam (const Nat) (app #0 #0)) (lam (const Nat) (app (app #0 #0) #5000)))"), func(x api.Term) api.Term { return node(api.Let, nat, named("n"), x) }),
		"omega, recursors within another": nested(2000, parsed(t, "(app (lam (const Nat) (app #0 #0)) (lam (const Nat) (app #0 #0)))"), func(x api.Term) api.Term {
			return spine(named("Nat.rec", api.Level{}), tree.Variable(0), tree.Variable(1), tree.Variable(2), x)
		}),
	}
}

func TestEndlessTermsTakeAllTheirFuel(t *testing.T) {
	e := world(t)
	for what, made := range endless(t, e) {
		for _, fuel := range fuels {
			if codes := answers(t, e, what, made, fuel); codes != allTired {
				t.Errorf("%s with fuel %d: faults %v", what, fuel, codes)
			}
		}
	}
}

// Definitions that double a level, one after the other: what comes of it is not told, and not made.
func TestLevelsThatDouble(t *testing.T) {
	e := New()
	const n = 200
	for i := range n {
		put(t, e, "(def d"+strconv.Itoa(i)+" (u) (sort (s u)) (const d"+strconv.Itoa(i+1)+" (max u u)))", nil, "")
	}
	put(t, e, "(def d"+strconv.Itoa(n)+" (u) (sort (s u)) (sort u))", nil, "")
	for i := range n {
		codes := answers(t, e, "doubled levels", named("d"+strconv.Itoa(i), param("v")), 1000)
		if i < n-20 && codes != allTired || i >= n-12 && codes != [3]int{} {
			t.Errorf("%d times doubled: faults %v", n-i, codes)
		}
	}
}

// Forms without an end: a weak head normal form there is, but no normal form.
func TestEndlessForms(t *testing.T) {
	e := world(t)
	put(t, e, `(def deep () (const Nat) (app (const succ) (const deep)))
(def lams () (const Nat) (lam (const Nat) (const lams)))
(def pis () (const Nat) (pi (const pis) (const pis)))
(def trees () (const Nat) (app (app (const f) (const trees)) (const trees)))`, nil, "")
	for _, name := range []string{"deep", "lams", "pis", "trees"} {
		for _, fuel := range fuels[1:] {
			if codes := answers(t, e, name, named(name), fuel); codes != [3]int{0, api.FTired, api.FTired} {
				t.Errorf("%s with fuel %d: faults %v", name, fuel, codes)
			}
		}
	}
}

// Steps by which a term becomes far larger than the document allows: all that is asked is that the calls end.
func TestTermsThatGrow(t *testing.T) {
	e := world(t)
	twice := spine(named("f"), tree.Variable(0), tree.Variable(0))
	for what, made := range map[string]api.Term{
		"let":  nested(3000, twice, func(x api.Term) api.Term { return node(api.Let, named("Nat"), twice, x) }),
		"beta": nested(3000, twice, func(x api.Term) api.Term { return spine(node(api.Lam, named("Nat"), x), twice) }),
		"stuck": nested(60000, tree.Variable(0), func(x api.Term) api.Term {
			return node(api.Let, named("Nat"), spine(named("Nat.rec", param("u")), tree.Variable(1), tree.Variable(2), tree.Variable(3), tree.Variable(0)), x)
		}),
		"number": parsed(t, app("(const mul)", app("(const mul)", num(60), num(60)), app("(const mul)", num(60), num(60)))),
	} {
		for _, fuel := range fuels {
			answers(t, e, what, made, fuel)
		}
	}
}

// largestTerms have just about as many parts as the document allows and are normal forms, deep in each direction or broad.
func largestTerms() map[string]api.Term {
	made := map[string]api.Term{}
	x := tree.Variable(3)
	for kind, parts := range []int{api.App: 2, api.Lam: 2, api.Pi: 2} {
		for i := range parts {
			if kind == api.Lam && i == 0 {
				continue
			}
			made["kind "+strconv.Itoa(kind)+", part "+strconv.Itoa(i)] = nested(9999, x, func(inner api.Term) api.Term {
				args := []api.Term{x, x}
				args[i] = inner
				return node(kind, args...)
			})
		}
	}
	made["types of functions"] = nested(9999, x, func(inner api.Term) api.Term { return node(api.Lam, inner, tree.Variable(0)) })
	made["broad"] = nested(13, tree.Variable(0), func(inner api.Term) api.Term { return node(api.Pi, inner, inner) })
	made["number"] = nested(9999, named("zero"), func(inner api.Term) api.Term { return node(api.App, named("succ"), inner) })
	made["recursors"] = nested(2200, x, func(inner api.Term) api.Term {
		return spine(named("Nat.rec"), tree.Variable(0), tree.Variable(1), tree.Variable(2), inner)
	})
	deep := param("u")
	for range 19997 {
		deep = api.Level{Kind: api.Succ, Args: []api.Level{deep}}
	}
	made["level"] = api.Term{Kind: api.Sort, Levels: []api.Level{deep}}
	made["levels"] = named("P", api.Level{Kind: api.Max, Args: []api.Level{deep, param("v")}})
	return made
}

func TestLargestTerms(t *testing.T) {
	e := world(t)
	for what, made := range largestTerms() {
		if n := tree.Parts(&made); n < 15000 || n > 20002 {
			t.Errorf("%s has %d parts", what, n)
		}
		text := term.Print(made)
		for _, fuel := range []int{0, 100000} {
			for _, reduce := range []reducer{(*Env).Whnf, (*Env).Normal} {
				got, steps, err := reduce(e, made, fuel)
				if err != nil || steps != 0 || term.Print(got) != text {
					t.Errorf("%s: %.60s, %d steps, %v; want %.60s", what, term.Print(got), steps, err, text)
				}
			}
			if equal, err := e.Equal(made, made, fuel); !equal || err != nil {
				t.Errorf("%s: Equal to itself %v, %v", what, equal, err)
			}
		}
		put := spine(node(api.Lam, named("Nat"), tree.Variable(0)), made)
		if got, steps, err := e.Whnf(put, 1); err != nil || steps != 1 || term.Print(got) != text {
			t.Errorf("%s, put in: %.60s, %d steps, %v", what, term.Print(got), steps, err)
		}
		if equal, err := e.Equal(put, made, 1); !equal || err != nil {
			t.Errorf("%s, put in: Equal %v, %v", what, equal, err)
		}
	}
}

// Many steps, in terms of many parts.
func TestManySteps(t *testing.T) {
	e := world(t)
	for _, c := range []struct {
		made  api.Term
		want  string
		steps int
	}{
		{parsed(t, app("(const add)", "(const n)", num(900))), strings.Replace(num(900), "zero", "n", 1), 3 + 3*900 + 1},
		{parsed(t, app("(const mul)", num(100), num(90))), num(9000), -1},
		{nested(6000, named("n"), func(x api.Term) api.Term { return spine(node(api.Lam, named("Nat"), tree.Variable(0)), x) }), "(const n)", 6000},
		{nested(6000, tree.Variable(6000), func(x api.Term) api.Term { return node(api.Let, named("Nat"), named("n"), x) }), "#0", 6000},
	} {
		got, steps, err := e.Normal(c.made, 100000)
		if err != nil || term.Print(got) != c.want || c.steps >= 0 && steps != c.steps {
			t.Errorf("Normal of %.60s: %.60s, %d steps, %v", term.Print(c.made), term.Print(got), steps, err)
		}
		if _, _, err := e.Normal(c.made, steps); err != nil {
			t.Errorf("Normal of %.60s with just the fuel: %v", term.Print(c.made), err)
		}
		_, _, err = e.Normal(c.made, steps-1)
		if code, _ := api.Code(err); code != api.FTired {
			t.Errorf("Normal of %.60s with one step too few: fault %d", term.Print(c.made), code)
		}
	}
}

// A function of thousands of arguments, written out and not.
func TestLongEta(t *testing.T) {
	const n = 4900
	made := tree.Variable(n)
	for i := range n {
		made = spine(made, tree.Variable(n-1-i))
	}
	long := nested(n, made, func(x api.Term) api.Term { return node(api.Lam, named("Nat"), x) })
	for i, want := range []bool{true, false} {
		if got, err := New().Equal(long, tree.Variable(i), 0); err != nil || got != want {
			t.Errorf("Equal to #%d: %v, %v", i, got, err)
		}
	}
}

// No environment makes a call panic, be it one that layer 6 would never let be.
func TestEnvironmentsThatCannotBe(t *testing.T) {
	texts := []string{
		"(inductive I () 99 (sort 0) (ctor c (const I)) (ctor d (pi (const I) (const I))))",
		"(inductive I () 1 (pi (sort 0) (sort 0)) (ctor c (const I)) (ctor d (pi (const I) (pi (app (const I) #0) (app (const I) #7)))))",
		"(inductive I () 2 (pi (sort 0) (pi (sort 0) (sort 0))) (ctor c (pi (sort 0) (pi (sort 0) (pi (const I) (pi (app (const I) #0) (const I)))))))",
		"(inductive I () 0 #3 (ctor c #4) (ctor d (pi #5 (pi (pi #6 (const I)) (const I)))))",
		"(inductive I () 0 (sort 0) (ctor c (sort 0)) (ctor c (pi (const I) (const I))) (ctor I (const I)) (ctor I.rec (const I)))",
		"(inductive I (u u) 0 (pi (sort u) (sort v)) (ctor c (pi (sort u) (app (const I) #0))) (ctor d (pi (sort u) (pi (pi (app (const I u) #0) (app (const I v v v) #1)) (app (const I) #9)))))",
		"(inductive I () 0 (sort 0) (ctor c (const I)) (ctor d (pi (const I) (const I)))) (inductive I () 0 (sort 0) (ctor d (const I)))",
		"(inductive I () 0 (sort 0)) (def I.rec () (sort 0) (const c)) (def c (u) #3 (app #4 (const c u)))",
		"(def c (u v) #0 (lam #5 (app (const d) #9))) (def d () #0 (let #1 (const c 0) (app #0 (const I.rec))))",
	}
	terms := []string{
		"(const c)", "(const c u v w)", "(const d)", "(const I.rec)", "(const I)",
		app("(const I.rec)", "(const c)"),
		app("(const I.rec)", "#0", "#1", "#2", "(const c)"),
		app("(const I.rec u)", "#0", "#1", "#2", "#3", "(app (const d) (const c))", "#4"),
		app("(const I.rec u)", "#0", "#1", "#2", "#3", "(app (app (const d) (const c)) (app (app (const d) #1) (const c)))", "(const c)"),
		app("(const I.rec u)", "#0", "(const c)", "(const d)", "(app (const d) (const c))"),
		"(app (sort 0) #1)", "(app (pi #0 (const c)) (const d))", "(lam (app (sort 0) #1) (app (pi #0 #0) #0))",
	}
	for _, text := range texts {
		for _, arity := range []int{-1, 0, 1, 2, 99, math.MaxInt, math.MinInt} {
			e := New()
			put(t, e, text, []string{"r"}, "#8")
			for _, d := range e.Decls() {
				d.Arity = arity
				e.Put(d, nil, api.Term{})
			}
			for _, made := range terms {
				for _, fuel := range []int{0, 1, 50} {
					answers(t, e, made, parsed(t, made), fuel)
				}
			}
		}
	}
}

// What no well-formed tree is makes no call panic, either.
func TestTreesThatCannotBe(t *testing.T) {
	e := world(t)
	for kind := -1; kind < 10; kind++ {
		for parts := range 4 {
			odd := api.Term{Kind: kind, N: -1, Name: "Nat.rec", Args: make([]api.Term, parts), Levels: make([]api.Level, parts)}
			for i, made := range []api.Term{
				odd,
				spine(odd, odd),
				spine(node(api.Lam, odd, odd), odd),
				node(api.Let, odd, odd, spine(tree.Variable(0), tree.Variable(0))),
				spine(named("Nat.rec"), odd, odd, odd, odd),
				node(api.Lam, odd, spine(odd, tree.Variable(0))),
			} {
				e.Whnf(made, 100)
				e.Normal(made, 100)
				e.Equal(made, odd, 100)
				e.Put(api.Decl{Kind: kind, Name: "odd" + strconv.Itoa(i), Type: made, Value: made, Ctors: []api.Ctor{{Name: "c", Type: made}}}, nil, made)
				e.Whnf(named("odd"+strconv.Itoa(i), odd.Levels...), 100)
				e.Whnf(spine(named("odd"+strconv.Itoa(i)+".rec"), odd, odd, named("c")), 100)
			}
		}
	}
	for _, fuel := range []int{-1, math.MinInt} {
		if _, steps, err := e.Normal(named("n"), fuel); steps != 0 || err != nil {
			t.Errorf("fuel %d where no step is needed: %d, %v", fuel, steps, err)
		}
		_, _, err := e.Normal(named("one"), fuel)
		if code, _ := api.Code(err); code != api.FTired {
			t.Errorf("fuel %d: fault %d", fuel, code)
		}
	}
}

// Levels with more parameters than terms that are right can have: Equal ends.
func TestManyLevelParameters(t *testing.T) {
	left, right := param("p"), param("p")
	for i := range 60 {
		name := param("p" + strconv.Itoa(i))
		left = api.Level{Kind: api.IMax, Args: []api.Level{name, left}}
		right = api.Level{Kind: api.IMax, Args: []api.Level{name, {Kind: api.Max, Args: []api.Level{right, {}}}}}
	}
	a, b := api.Term{Kind: api.Sort, Levels: []api.Level{left}}, api.Term{Kind: api.Sort, Levels: []api.Level{right}}
	if equal, err := New().Equal(a, a, 0); !equal || err != nil {
		t.Errorf("as they are written the same: %v, %v", equal, err)
	}
	if equal, err := New().Equal(a, named("n"), 0); equal || err != nil {
		t.Errorf("a sort and a constant: %v, %v", equal, err)
	}
	equal, err := New().Equal(a, b, 0)
	if code, _ := api.Code(err); code != api.FTired && !equal {
		t.Errorf("written otherwise: %v, fault %d", equal, code)
	}
}

// What is answered hangs on the arguments alone: not on what was asked ahead.
func TestAnswersAreTheSameAgain(t *testing.T) {
	e := world(t)
	texts := []string{app("(const mul)", num(3), num(4)), "(const id u)", app("(const Nat.rec u)", "#0", "#1", "#2", "(const two)")}
	var first []string
	for round := range 3 {
		for i, text := range texts {
			made := parsed(t, text)
			for fuel := range 60 {
				got, steps, err := e.Normal(made, fuel)
				code, _ := api.Code(err)
				told := term.Print(got) + strconv.Itoa(steps) + " " + strconv.Itoa(code)
				if round == 0 {
					first = append(first, told)
				} else if first[i*60+fuel] != told {
					t.Errorf("Normal(%s) with fuel %d: %s, and at first %s", text, fuel, told, first[i*60+fuel])
				}
			}
		}
	}
}
