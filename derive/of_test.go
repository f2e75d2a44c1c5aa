package derive

import (
	"strconv"
	"strings"
	"testing"

	"provekernel/api"
	"provekernel/term"
)

// stepText is a step as a line: its number, rule, context, term, type, premises.
func stepText(i int, s api.Step) string {
	var b strings.Builder
	b.WriteString(strconv.Itoa(i) + " " + ruleNames[s.Rule] + " [")
	for j, typ := range s.Ctx {
		b.WriteString(strings.Repeat(" ", min(j, 1)) + term.Print(typ))
	}
	b.WriteString("] " + term.Print(s.Term) + " : " + term.Print(s.Type))
	for _, p := range s.Prems {
		b.WriteString(" " + strconv.Itoa(p))
	}
	return b.String()
}

func stepTexts(ss []api.Step) string {
	var lines []string
	for i, s := range ss {
		lines = append(lines, stepText(i, s))
	}
	return strings.Join(lines, "\n")
}

// Short derivations: a step for each place of the term, those that a step stands on ahead of it in the order of the words.
func TestShortDerivations(t *testing.T) {
	l := looker{world(t), levelNames}
	for _, c := range []struct {
		text  string
		lines []string
	}{
		{"(app (const succ) (const zero))", []string{
			"0 RConst [] (const succ) : (pi (const Nat) (const Nat))",
			"1 RConst [] (const zero) : (const Nat)",
			"2 RApp [] (app (const succ) (const zero)) : (const Nat) 0 1",
		}},
		{"(sort (max u 0))", []string{"0 RSort [] (sort (max u 0)) : (sort (s (max u 0)))"}},
		{"(const Pair (s v) u)", []string{"0 RConst [] (const Pair (s v) u) : (pi (sort (s v)) (pi (sort u) (sort (max (s v) u))))"}},
		{"(pi (sort u) #0)", []string{
			"0 RSort [] (sort u) : (sort (s u))",
			"1 RVar [(sort u)] #0 : (sort u)",
			"2 RPi [] (pi (sort u) #0) : (sort (imax (s u) u)) 0 1",
		}},
		{"(lam (sort u) (lam #0 #0))", []string{
			"0 RSort [] (sort u) : (sort (s u))",
			"1 RVar [(sort u)] #0 : (sort u)",
			"2 RVar [(sort u) #0] #0 : #1",
			"3 RLam [(sort u)] (lam #0 #0) : (pi #0 #1) 1 2",
			"4 RLam [] (lam (sort u) (lam #0 #0)) : (pi (sort u) (pi #0 #1)) 0 3",
		}},
		{"(pi (const A) (const A))", []string{
			"0 RConst [] (const A) : (const Type)",
			"1 RConst [(const A)] (const A) : (const Type)",
			"2 RPi [] (pi (const A) (const A)) : (sort (imax (s 0) (s 0))) 0 1",
		}},
		{"(app (const g) (const n))", []string{
			"0 RConst [] (const g) : (const Deep)",
			"1 RConst [] (const n) : (const N)",
			"2 RApp [] (app (const g) (const n)) : (const Nat) 0 1",
		}},
		{"(let (const N) (const one) (app (const p) #0))", []string{
			"0 RConst [] (const N) : (const Type)",
			"1 RConst [] (const one) : (const Nat)",
			"2 RConst [] (const p) : (pi (const Nat) (app (const P) #0))",
			"3 RConst [] (const one) : (const Nat)",
			"4 RApp [] (app (const p) (const one)) : (app (const P) (const one)) 2 3",
			"5 RLet [] (let (const N) (const one) (app (const p) #0)) : (app (const P) (const one)) 0 1 4",
		}},
		{"(lam (const Nat) (let (const Nat) #0 (lam (const Bool) #1)))", []string{
			"0 RConst [] (const Nat) : (sort (s 0))",
			"1 RConst [(const Nat)] (const Nat) : (sort (s 0))",
			"2 RVar [(const Nat)] #0 : (const Nat)",
			"3 RConst [(const Nat)] (const Bool) : (sort (s 0))",
			"4 RVar [(const Nat) (const Bool)] #1 : (const Nat)",
			"5 RLam [(const Nat)] (lam (const Bool) #1) : (pi (const Bool) (const Nat)) 3 4",
			"6 RLet [(const Nat)] (let (const Nat) #0 (lam (const Bool) #1)) : (pi (const Bool) (const Nat)) 1 2 5",
			"7 RLam [] (lam (const Nat) (let (const Nat) #0 (lam (const Bool) #1))) : (pi (const Nat) (pi (const Bool) (const Nat))) 0 6",
		}},
		{"(app (app (const add) (const one)) (const one))", []string{
			"0 RConst [] (const add) : (pi (const Nat) (pi (const Nat) (const Nat)))",
			"1 RConst [] (const one) : (const Nat)",
			"2 RApp [] (app (const add) (const one)) : (pi (const Nat) (const Nat)) 0 1",
			"3 RConst [] (const one) : (const Nat)",
			"4 RApp [] (app (app (const add) (const one)) (const one)) : (const Nat) 2 3",
		}},
	} {
		if got, want := stepTexts(l.derives(t, c.text)), strings.Join(c.lines, "\n"); got != want {
			t.Errorf("Of(%s):\n%s\nwant\n%s", c.text, got, want)
		}
	}
}

// rightTerms: terms that have a type, by what they show. Wherever there is no other the parameters are u and v.
var rightTerms = map[string][]string{
	"sorts":     {"(sort 0)", "(sort u)", "(sort (s (s 0)))", "(sort (imax u (max v (s u))))"},
	"constants": {"(const zero)", "(const Nat)", "(const id u)", "(const id (imax u v))", "(const Pair u u)", "(const Pair (max u v) 0)", "(const W.rec 0 u (s v))", "(const Acc.rec v u)", "(const six u v u v 0 (s u))", "(const False)"},
	"applications": {
		app("(const add)", "(const one)", "(const two)"), num(5), app("(const id (s 0))", "(const Nat)"), app("(const id (s 0))", "(const Nat)", "(const zero)"),
		app("(const refl (s 0))", "(const Nat)", num(2)), app("(const cons 0)", "(const Nat)", "(const zero)", app("(const nil 0)", "(const Nat)")),
		app("(const vcons 0)", "(const Bool)", "(const zero)", "(const true)", app("(const vnil 0)", "(const Bool)")), app("(const both)", "(const False)", "(const False)", "(const F)", "(const F)"),
		app("(const Pair (s u) 0)", "(sort u)", "(const False)"), app("(lam (const Nat) #0)", "(const zero)"), app("(lam (sort (s u)) (lam #0 #0))", "(sort u)"),
	},
	"functions under none, one and several binders": {
		"(lam (const Nat) #0)", "(lam (const Nat) (const zero))", "(lam (sort u) #0)", "(lam (sort u) (lam #0 (lam #1 #1)))", "(lam (sort u) (lam (pi #0 (sort v)) (lam #1 (lam (app #1 #0) #0))))",
		"(lam (const Nat) (lam (const Nat) (lam (const Nat) (app (app (const add) #2) (app (app (const add) #1) #0)))))", "(lam (pi (const Nat) (const Nat)) (app #0 (app #0 (const zero))))",
		"(lam (sort 0) (lam (sort 0) (lam #1 (lam #1 (app (app (app (app (const both) #3) #2) #1) #0)))))", "(lam (pi (sort 0) #0) (app #0 (pi (sort 0) #0)))",
		"(lam (pi (const Nat) (sort u)) (lam (pi (const Nat) (app #1 #0)) (app #0 (const two))))",
	},
	"products under none, one and several binders": {
		"(pi (const Nat) (const Nat))", "(pi (sort u) (sort v))", "(pi (sort u) #0)", "(pi (sort u) (pi #0 #1))", "(pi (sort u) (pi (pi #0 (sort v)) (pi #1 (app #1 #0))))", "(pi (const Nat) (app (const P) #0))",
		"(pi (sort 0) (pi (sort 0) (pi (pi #1 #1) (pi #2 #2))))", "(pi (pi (sort u) #0) (sort v))", "(pi (const Nat) (pi (const Nat) (app (app (app (const Eq (s 0)) (const Nat)) #1) #0)))",
	},
	"lets under none, one and several binders": {
		"(let (const Nat) (const one) #0)", "(let (const Nat) (const one) (app (const succ) #0))", "(let (sort (s (s 0))) (sort (s 0)) (lam #0 #0))", "(let (sort (s 0)) (const Nat) (lam #0 (app (const succ) #0)))",
		"(let (const N) (const one) (let (const Nat) (app (const succ) #0) (app (app (const add) #0) #1)))", "(lam (const Nat) (let (const Nat) (app (const succ) #0) (app (app (const add) #0) #1)))",
		"(lam (sort u) (lam #0 (let #1 #0 (lam #2 #1))))", "(lam (sort u) (lam #0 (let (pi #1 #2) (lam #1 #0) (app #0 (app #0 #1)))))", "(let (const Nat) (let (const Nat) (const one) (app (const succ) #0)) (let (const Nat) #0 (app (const succ) #0)))",
		"(let (let (sort (s (s 0))) (sort (s 0)) #0) (const Nat) (pi #0 #1))", "(app (let (const Unary) (const f) #0) (const zero))", "(app (const succ) (let (const Nat) (const zero) #0))", "(pi (let (const Type) (const Nat) #0) (app (const P) #0))",
		"(lam (let (const Type) (const Nat) #0) (app (const succ) #0))", "(let (const Nat) (const two) (app (const q) (app (const p) #0)))", "(let (const Nat) (const zero) (sort u))", "(let (const Nat) (const zero) (lam (sort u) (lam #0 #0)))",
	},
	"definitions that must be unfolded": {
		"(app (const f) (const zero))", "(app (const g) (const zero))", "(app (const succ) (const n))", "(lam (const A) (const a))", "(pi (const A) (const A))", "(lam (const N) (app (const g) #0))", "(pi (const Deep) (const Unary))",
		app("(const q)", app("(const p)", app("(const add)", "(const one)", "(const one)"))), "(lam (const Deep) (app #0 (app #0 (const n))))", "(let (const Deep) (const f) (app #0 (const zero)))", "(let (const Unary) (const g) #0)",
		"(app (lam (app (app (const id (s (s 0))) (sort (s 0))) (const Nat)) (app (const succ) #0)) (const one))", "(pi (app (app (const id (s (s 0))) (sort (s 0))) (const Nat)) (sort u))", app("(const id (s 0))", "(const Deep)", "(const f)", "(const n)"),
		"(lam (const Type) (lam #0 #0))", app("(const refl (s 0))", "(const N)", "(const zero)"), "(app (lam (const Type) (pi #0 #1)) (const A))",
	},
	"recursors that must take their steps": {
		app("(const arr)", "(const two)", "(const zero)", "(const one)"), app("(const arr)", app("(const add)", "(const one)", "(const two)"), "(const n)", "(const n)", "(const n)"), app("(const succ)", app("(const arr)", "(const zero)")),
		"(lam (app (const Arr) (const one)) (app #0 (const zero)))", "(pi (app (const Arr) (const two)) (app (const P) (app (app #0 (const one)) (const one))))", "(let (app (const Arr) (const one)) (const f) (app #0 (const two)))",
		app("(const Nat.rec 0)", "(const P)", app("(const p)", "(const zero)"), "(lam (const Nat) (lam (app (const P) #0) (app (const p) (app (const succ) #1))))", "(const two)"),
		app("(const Nat.rec (s 0))", "(lam (const Nat) (const Nat))", "(const zero)", "(lam (const Nat) (lam (const Nat) #1))", "(const two)"),
		app("(const Eq.rec 0 (s 0))", "(const Nat)", "(const two)", "(lam (const Nat) (lam (app (app (app (const Eq (s 0)) (const Nat)) (const two)) #0) (app (const P) #1)))", app("(const p)", "(const two)"), app("(const add)", "(const one)", "(const one)"), app("(const refl (s 0))", "(const Nat)", "(const two)")),
		app("(const Vec.rec (s 0) 0)", "(const Nat)", "(lam (const Nat) (lam (app (app (const Vec 0) (const Nat)) #0) (app (const Arr) #1)))", "(const zero)", "(lam (const Nat) (lam (const Nat) (lam (app (app (const Vec 0) (const Nat)) #1) (lam (app (const Arr) #2) (lam (const Nat) #1)))))", "(const zero)", app("(const vnil 0)", "(const Nat)")),
	},
}

func TestRightTerms(t *testing.T) {
	l := looker{world(t), levelNames}
	rules, deepest := map[int]int{}, 0
	for _, texts := range rightTerms {
		for _, text := range texts {
			for _, s := range l.derives(t, text) {
				rules[s.Rule]++
				deepest = max(deepest, len(s.Ctx))
			}
		}
	}
	for rule := api.RVar; rule <= api.RLet; rule++ {
		if rules[rule] < 10 {
			t.Errorf("%s has been used only %d times", ruleNames[rule], rules[rule])
		}
	}
	if deepest < 4 {
		t.Errorf("no context has more than %d variables", deepest)
	}
}

// All that the world declares: types, values, constructors, recursors.
func TestDeclarations(t *testing.T) {
	e := world(t)
	derives := func(params []string, made api.Term) {
		t.Helper()
		if _, got := (looker{e, params}).of(t, made, muchFuel); got != right {
			t.Errorf("Of(%s): %s", term.Print(made), got)
		}
	}
	for _, d := range e.Decls() {
		derives(d.Params, d.Type)
		if d.Kind == api.Def {
			derives(d.Params, d.Value)
		}
		for _, c := range d.Ctors {
			derives(d.Params, c.Type)
		}
		if params, typ, ok := e.Type(d.Name + ".rec"); ok {
			derives(params, typ)
		}
	}
}

// Each term within each other: as an argument, as a domain and a body, as a let's parts.
func TestTermsWithinTerms(t *testing.T) {
	l := looker{world(t), levelNames}
	count := 0
	for _, texts := range rightTerms {
		for _, inner := range texts {
			for _, around := range []string{
				"(lam (const Nat) IT)", "(lam (sort u) (lam #0 (lam #1 IT)))", "(let (const Nat) (const one) IT)", "(let (const Nat) (const one) (lam (const Bool) (let (const Nat) #1 IT)))",
				"(app (lam (const Nat) IT) (const n))", "(lam IT #0)", "(pi IT #0)", "(pi (const Nat) IT)", "(let IT (const zero) #0)", "(let (const Nat) IT (app (const succ) #0))", "(app (const succ) IT)", "(app IT (const zero))",
				"(app (const id (s 0)) IT)", "(app (app (const refl (s 0)) (const Nat)) IT)", "(app (const p) IT)", "(lam (const Bool) (app (const add) IT))",
			} {
				if _, got := l.of(t, parsed(t, strings.ReplaceAll(around, "IT", inner)), 1000); got == right {
					count++
				}
			}
		}
	}
	if count < 500 {
		t.Errorf("only %d terms have a type", count)
	}
}

// wrongTerms: the fault of each, whatever stands around it.
var wrongTerms = map[string][]string{
	"FVar":    {"#0", "#7", "#99999", "(lam (const Nat) #1)", "(pi (const Nat) (pi (const Nat) #2))", "(let (const Nat) (const zero) #1)", "(let #0 (const zero) #0)", "(app #0 (const none))"},
	"FName":   {"(const none)", "(const none u w)", "(const Arr.rec)", "(app (const none) #0)", "(lam (const none) #1)", "(app (const succ) (const none))", "(let (const Nat) (const none) #0)"},
	"FParam":  {"(sort w)", "(sort (max u (imax v w)))", "(const id w)", "(const Pair u (s w))", "(lam (sort w) #0)", "(pi (const Nat) (sort w))", "(app (const id (s w)) (sort 0))", "(let (sort (s 0)) (sort 0) (sort w))"},
	"FLevels": {"(const zero 0)", "(const id)", "(const id u v)", "(const Pair u)", "(const Nat.rec)", "(const Eq.rec w)", "(app (const Nat u) #0)"},
	"FFun":    {"(app (const zero) (const zero))", "(app (sort 0) (const none))", "(app (const n) #0)", "(app (app (const g) (const zero)) (const zero))", "(app (app (const arr) (const zero)) (const zero))", "(lam (const Nat) (app #0 #0))", "(let (const Nat) (const zero) (app #0 #0))"},
	"FArg": {
		"(app (const succ) (const succ))", "(app (const succ) (const true))", "(app (const f) (const Nat))", "(app (const id u) (sort u))", "(let (const Nat) (const true) #1)", "(let (sort u) (sort u) (const none))", "(lam (sort u) (lam #0 (app (const succ) #0)))",
		app("(const q)", app("(const p)", "(const one)")), "(let (const Nat) (const one) (app (const q) (app (const p) #0)))", app("(const Pair u v)", "(sort u)"),
	},
	"FSort": {"(lam (const zero) #0)", "(lam (const n) (const none))", "(pi (const zero) #1)", "(pi (const Nat) (const zero))", "(pi (const Nat) #0)", "(pi (const A) (const a))", "(let (const zero) #7 #0)", "(lam (lam (const Nat) #0) #0)", "(pi (lam (const Nat) (const Nat)) (sort 0))"},
}

// Terms that have no type, alone and within others: the fault of check.Infer, and no steps.
func TestFaults(t *testing.T) {
	l := looker{world(t), levelNames}
	for want, texts := range wrongTerms {
		for _, text := range texts {
			if _, got := l.of(t, parsed(t, text), 1000); got != want {
				t.Errorf("Of(%s): %s, want %s", text, got, want)
			}
			for _, around := range []string{
				"(lam (const Nat) IT)", "(lam IT (sort w))", "(pi IT (const none))", "(pi (sort u) (lam #0 IT))", "(app IT (const none))", "(app (const succ) IT)", "(let IT (const none) #9)", "(let (const Nat) IT (const none))",
				"(let (const Nat) (const zero) IT)", "(let (const Nat) (const zero) (app (const succ) IT))", "(app (const id (s 0)) (let (const Nat) (const zero) IT))",
			} {
				if _, got := l.of(t, parsed(t, strings.ReplaceAll(around, "IT", text)), 1000); got == right && want != "FVar" {
					t.Errorf("Of(%s) of what is wrong: %s", strings.ReplaceAll(around, "IT", text), got)
				}
			}
		}
	}
}

// What parameters there are, the call tells.
func TestParameters(t *testing.T) {
	e := world(t)
	for _, c := range []struct {
		text   string
		params []string
		want   string
	}{
		{"(sort u)", nil, "FParam"},
		{"(sort u)", []string{"v", "u"}, right},
		{"(sort 0)", nil, right},
		{"(const id u)", []string{"v"}, "FParam"},
		{"(const six a b c d e f)", []string{"a", "b", "c", "d", "e", "f"}, right},
		{"(const six a b c d e g)", []string{"a", "b", "c", "d", "e", "f"}, "FParam"},
		{"(lam (sort x) (lam (sort y) (app (const id x) #1)))", []string{"x", "y"}, right},
		{"(lam (sort x) (lam (sort y) (app (const id x) #1)))", []string{"x"}, "FParam"},
	} {
		if _, got := (looker{e, c.params}).of(t, parsed(t, c.text), 1000); got != c.want {
			t.Errorf("Of(%s) with %v: %s, want %s", c.text, c.params, got, c.want)
		}
	}
}

// twoIsTwo needs an equality of eleven steps: nine for the sum, two for two.
var twoIsTwo = app("(const q)", app("(const p)", app("(const add)", "(const one)", "(const one)")))

// Fuel that is just enough, and one less.
func TestFuel(t *testing.T) {
	l := looker{world(t), levelNames}
	for _, c := range []struct {
		text  string
		steps int // as many as one form, or one equality, takes
		exact bool
	}{
		{"(const f)", 0, true},
		{"(app (const succ) (const zero))", 0, true},
		{"(app (const f) (const zero))", 1, true},
		{"(app (const g) (const zero))", 5, true},
		{"(lam (const A) #0)", 1, true},
		{"(pi (const A) (pi (const A) (const A)))", 1, true},
		{"(app (const g) (app (const g) (app (const f) (const zero))))", 5, true},
		{"(lam (const A) (lam (const A) (app (const g) (const zero))))", 5, true},
		{"(let (const A) (const a) (const zero))", 1, true},
		{"(let (const Deep) (const f) (app #0 (const zero)))", 6, false},
		{app("(const arr)", "(const two)", "(const zero)", "(const one)"), 0, false},
		{twoIsTwo, 11, false},
		{"(let (const Nat) " + twoIsTwo + " (let (const Nat) " + twoIsTwo + " (app (app (const add) #0) #1)))", 11, false},
	} {
		made := parsed(t, c.text)
		least := -1
		for fuel := 0; fuel < 60 && least < 0; fuel++ {
			if _, got := l.of(t, made, fuel); got == right {
				least = fuel
			} else if got != "FTired" {
				t.Errorf("Of(%s) with fuel %d: %s", c.text, fuel, got)
			}
		}
		if least < 0 || c.exact && least != c.steps {
			t.Errorf("Of(%s): there is enough fuel from %d on, want %d", c.text, least, c.steps)
		}
		for _, fuel := range []int{least - 1, least, least + 1, least + 7, muchFuel} {
			_, got := l.of(t, made, fuel)
			if want := map[bool]string{true: right, false: "FTired"}[fuel >= least]; fuel >= 0 && got != want {
				t.Errorf("Of(%s) with fuel %d: %s, want %s", c.text, fuel, got, want)
			}
		}
	}
}

// FTired is a fault like others: the first that is met is told.
func TestFirstFaultWithoutFuel(t *testing.T) {
	l := looker{world(t), levelNames}
	for text, want := range map[string]string{
		"(app (const f) #0)":                             "FTired",
		"(app #0 (app (const f) (const zero)))":          "FVar",
		"(lam (const A) (const none))":                   "FTired",
		"(lam (const none) (lam (const A) #0))":          "FName",
		"(pi (sort w) (const A))":                        "FParam",
		"(let (const Nat) #0 (lam (const A) #0))":        "FVar",
		"(let (const Nat) (const zero) (const id))":      "FLevels",
		"(let (const Nat) (const n) (const none))":       "FTired",
		"(app (const succ) (app (const f) (const bad)))": "FTired",
	} {
		if _, got := l.of(t, parsed(t, text), 0); got != want {
			t.Errorf("Of(%s) without fuel: %s, want %s", text, got, want)
		}
	}
}
