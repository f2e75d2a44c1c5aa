package agree

import (
	"strconv"
	"strings"
	"testing"

	"provekernel/file"
)

func TestTextsWithoutDeclarations(t *testing.T) {
	for _, fuel := range []int{0, 1000, 100000} {
		agreeAll(t, fuel, []textCase{{"", 0, right}, {" ", 0, right}, {"\n", 0, right}, {" \t\n \n", 0, right}})
	}
}

// declCase: declarations behind the world, and what is said of the last one: those ahead of it are right.
type declCase struct{ text, want string }

// agreeOn: of each both say what is wanted. What is right is added: a wrong one is seen behind it.
func agreeOn(t *testing.T, fuel int, cases []declCase) {
	t.Helper()
	for _, c := range cases {
		ds, err := file.Parse(c.text)
		if err != nil {
			t.Fatalf("%s: %s", c.text, said(err))
		}
		n, text, want := worldSize+len(ds)-1, worldText+c.text, c.want
		if want == right {
			agreeAll(t, fuel, []textCase{{text, n + 1, right}, {text + "(axiom last () #0)", n + 1, "FVar at " + strconv.Itoa(n+1)}})
			continue
		}
		if want != tired {
			want += " at " + strconv.Itoa(n)
		}
		agreeAll(t, fuel, []textCase{{text, n, want}, {text + "(axiom last () #0)", n, want}})
	}
}

// Axioms and definitions, with each fault of layer 5.
func TestAxiomsAndDefinitions(t *testing.T) {
	agreeOn(t, 1000, []declCase{
		{"(axiom a () (const Nat))", right},
		{"(axiom a () (const N))", right},
		{"(axiom a (u v w x y z) (sort (max u (max v (max w (max x (max y z)))))))", right},
		{"(axiom a (u) (pi (sort u) (pi #0 #1)))", right},
		{"(axiom a () (app (const P) (const two)))", right},
		{"(axiom a () (app (const Arr) (const n)))", right},
		{"(axiom Nat () (const Nat))", "FTwice"},
		{"(axiom zero () (const Nat))", "FTwice"},
		{"(axiom Nat.rec () (const Nat))", "FTwice"},
		{"(axiom n () #0)", "FTwice"},
		{"(axiom a (u u) (sort u))", "FParam"},
		{"(axiom a (t u v w x y z) (sort u))", "FParam"},
		{"(axiom a (u) (sort v))", "FParam"},
		{"(axiom a () (const Any 0 u))", "FParam"},
		{"(axiom a () (pi (sort (max 0 (imax 0 w))) #0))", "FParam"},
		{"(axiom a () #0)", "FVar"},
		{"(axiom a () (pi (const Nat) #1))", "FVar"},
		{"(axiom a () (const none))", "FName"},
		{"(axiom a () (const a))", "FName"},
		{"(axiom a () (const none 0 u))", "FName"},
		{"(axiom a () (const Any 0))", "FLevels"},
		{"(axiom a () (const Any u v w))", "FLevels"},
		{"(axiom a () (const Nat 0))", "FLevels"},
		{"(axiom a () (app (const Nat) (const zero)))", "FFun"},
		{"(axiom a () (app (sort 0) #0))", "FFun"},
		{"(axiom a () (app (const P) (const Nat)))", "FArg"},
		{"(axiom a () (const zero))", "FSort"},
		{"(axiom a () (pi (const zero) (const Nat)))", "FSort"},
		{"(axiom a () (pi (const Nat) #0))", "FSort"},
		{"(axiom a () (let (const zero) (const zero) (const Nat)))", "FSort"},
		{"(axiom a () (let (const Nat) (const Nat) (const Nat)))", "FArg"},
		{"(axiom a () (app (app (const Nat.rec (s (s 0))) (lam (const Nat) (sort (s 0)))) (const Nat)))", "FSort"},
		{"(def a () (const Nat) (const two))", right},
		{"(def a () (const N) (const zero))", right},
		{"(def a (u) (pi (sort u) (pi #0 #1)) (const id u))", right},
		{"(def a () (app (const P) (const two)) (app (const p) (app (const succ) (const one))))", right},
		{"(def a () (pi (const Nat) (const Nat)) (lam (const N) (app (const succ) #0)))", right},
		{"(def two () (const Nat) (const one))", "FTwice"},
		{"(def inl () (const Nat) (const one))", "FTwice"},
		{"(def a (u v u) (const Nat) (const one))", "FParam"},
		{"(def a (u) (sort (s u)) (sort v))", "FParam"},
		{"(def a () (const Nat) #0)", "FVar"},
		{"(def a () (const Nat) (const a))", "FName"},
		{"(def a () (const Nat) (app (const id) (const Nat)))", "FLevels"},
		{"(def a () (const Nat) (app (const zero) (const zero)))", "FFun"},
		{"(def a () (const Nat) (app (const succ) (const succ)))", "FArg"},
		{"(def a () (const Nat) (const succ))", "FArg"},
		{"(def a () (sort 0) (const Nat))", "FArg"},
		{"(def a () (app (const P) (const two)) (app (const p) (const one)))", "FArg"},
		{"(def a () (const zero) #0)", "FSort"},
		{"(def a () (const Nat) (lam (const zero) (const zero)))", "FSort"},
	})
}

// Of two faults the one is told that is met first.
func TestWhichFaultIsTold(t *testing.T) {
	agreeOn(t, 1000, []declCase{
		{"(def a () (app (const succ) #0) #1)", "FVar"},
		{"(def a () (const Nat) (app (const none) #0))", "FName"},
		{"(def a () (const Nat) (app (const zero) #0))", "FFun"},
		{"(def a () (const Nat) (app (const succ) #0))", "FVar"},
		{"(def a () (const Nat) (app (app (const succ) (const succ)) #0))", "FArg"},
		{"(def a () (const Nat) (app (app (const succ) (const zero)) #0))", "FFun"},
		{"(def a () (const Nat) (lam (const zero) #1))", "FSort"},
		{"(def a () (const Nat) (lam (const Bool) #1))", "FVar"},
		{"(def a () (const Nat) (lam (const Bool) #0))", "FArg"},
		{"(def a () (const Nat) (let (const none) #0 #1))", "FName"},
		{"(def a () (const Nat) (let (const Nat) #0 #1))", "FVar"},
		{"(def a () (const Nat) (let (const Nat) (const true) #1))", "FArg"},
		{"(def a () (const Nat) (let (const Nat) (const zero) #1))", "FVar"},
		{"(def a () (pi (const zero) #7) #0)", "FSort"},
		{"(def a () (pi (pi (const Nat) #7) (const zero)) #0)", "FVar"},
		{"(def a () (const Nat) (const id u v))", "FLevels"},
		{"(def a () (const Nat) (app (const id u) (const none)))", "FParam"},
		{"(def a (u u) (const none) #0)", "FParam"},
		{"(def two (u u) (const none) #0)", "FTwice"},
	})
}

// Definitions that must be unfolded, recursors that must take their steps, lets, functions that are no more than others.
func TestSteps(t *testing.T) {
	nats, two := "(app (const List 0) (const Nat))", num(2)
	eq := func(typ, x, y string) string {
		return "(def a () " + app("(const Eq (s 0))", typ, x, y) + " " + app("(const refl (s 0))", typ, x) + ")"
	}
	list := app("(const cons 0)", "(const Nat)", "(const n)", app("(const cons 0)", "(const N)", "(const one)", "(app (const nil 0) (const Nat))"))
	branch := app("(const node 0)", "(const Nat)", "(lam (const Nat) (app (app (const leaf 0) (const Nat)) (app (const succ) #0)))", app("(const leaf 0)", "(const Nat)", "(const one)"))
	same := app("(const refl (s 0))", "(const Nat)", "(const n)")
	transport := app("(const subst (s 0) (s 0))", "(const Nat)", "(const n)", "(lam (const Nat) (const Nat))", "(const two)", "(const n)")
	agreeOn(t, 1000, []declCase{
		{eq("(const Nat)", app("(const add)", "(const one)", "(const one)"), two), right},
		{eq("(const Nat)", app("(const add)", "(const one)", "(const one)"), num(3)), "FArg"},
		{eq("(const Nat)", app("(const add)", "(const n)", "(const two)"), app("(const succ)", app("(const succ)", "(const n)"))), right},
		{eq("(const Nat)", app("(const add)", "(const two)", "(const n)"), app("(const succ)", app("(const succ)", "(const n)"))), "FArg"},
		{eq("(const Nat)", app("(const mul)", num(4), num(3)), num(12)), right},
		{eq("(const Nat)", app("(const mul)", num(4), num(3)), num(11)), "FArg"},
		{eq("(const Nat)", app("(const length 0)", "(const Nat)", list), two), right},
		{eq("(const Nat)", app("(const length 0)", "(const Nat)", app("(const append 0)", "(const Nat)", list, list)), num(4)), right},
		{eq(nats, app("(const append 0)", "(const Nat)", list, "(app (const nil 0) (const Nat))"), list), right},
		{eq("(const Nat)", app("(const sum)", branch), num(4)), right},
		{eq("(const Nat)", app("(const sum)", branch), num(3)), "FArg"},
		{eq("(const Nat)", app(transport, same), two), right},
		{"(axiom e () " + app("(const Eq (s 0))", "(const Nat)", "(const n)", "(const n)") + ")" + eq("(const Nat)", app(transport, same), two), right},
		{"(axiom e () " + app("(const Eq (s 0))", "(const Nat)", "(const n)", "(const n)") + ")" + eq("(const Nat)", app(transport, "(const e)"), two), "FArg"},
		{eq("(const Nat)", "(let (const Nat) (const one) (app (const succ) #0))", two), right},
		{eq("(const Nat)", "(let (const Type) (const N) (let #0 (const one) (app (lam #1 (app (const succ) #0)) #0)))", two), right},
		{eq("(const Unary)", "(const f)", "(lam (const N) (app (const f) #0))"), right},
		{eq("(const Unary)", "(lam (const Nat) (app (const g) #0))", "(const g)"), right},
		{eq("(const Unary)", "(lam (const Nat) (app (const f) (app (const f) #0)))", "(const f)"), "FArg"},
		{eq("(const Unary)", "(const f)", "(const g)"), "FArg"},
		{eq("(pi (const Nat) (const Unary))", "(lam (const Nat) (lam (const Nat) (app (app (const add) #1) #0)))", "(const add)"), right},
		{eq("(pi (const Nat) (const Unary))", "(lam (const Nat) (lam (const Nat) (app (app (const add) #0) #1)))", "(const add)"), "FArg"},
		{eq("(pi (const Unary) (const Unary))", "(lam (const Unary) #0)", "(lam (const Deep) (lam (const Nat) (app #1 #0)))"), right},
		{eq("(const Unary)", app("(const comp (s 0) (s 0) (s 0))", "(const Nat)", "(const Nat)", "(const Nat)", "(const f)", "(const g)"), "(lam (const Nat) (app (const f) (app (const g) #0)))"), right},
		{"(def a () (pi (app (const Arr) (const two)) (const Nat)) (lam (pi (const Nat) (pi (const Nat) (const Nat))) (app (app #0 (const one)) (const n))))", right},
		{"(def a () (const Nat) (app (app (app (const arr) (const two)) (const one)) (const n)))", right},
		{"(def a () (const Nat) (app (app (app (app (const arr) (const two)) (const one)) (const n)) (const n)))", "FFun"},
		{"(def a () (pi (const False) (const Nat)) (lam (const False) (app (app (const False.rec (s 0)) (lam (const False) (const Nat))) #0)))", right},
	})
}

// Types of terms that bind variables, where other things come to stand in the place of these.
func TestTypesThatHangOnTerms(t *testing.T) {
	product, value := "(pi (const Nat) (app (const P) #0))", "(app (const P) (const two))"
	for typ, texts := range map[string][]string{
		product: {
			"(const p)", "(lam (const Nat) (app (const p) #0))", "(lam (const Nat) (let (const Nat) #0 (app (const p) #0)))", "(lam (const Nat) (let (const Nat) (const one) (app (const p) #1)))", "(let (const Nat) (const one) (const p))",
			"(lam (const Nat) (app (lam (const Nat) (app (const p) #0)) #0))", "(lam (const Nat) (app (lam (const Nat) (app (const p) #1)) (const zero)))", "(lam (const Nat) (app (let (const Nat) #0 (lam (const Nat) (app (const p) #0))) #0))",
			"(lam (const Nat) (app (let (const Nat) #0 (lam (const Nat) (app (const p) #1))) (const two)))", "(lam (const Nat) (let (pi (const Nat) (app (const P) #0)) (const p) (app #0 #1)))", "(app (lam (const Nat) (const p)) (const zero))",
			"(app (lam (const Nat) (lam (const Nat) (app (const p) #0))) (const zero))", "(app (app (const id 0) (pi (const Nat) (app (const P) #0))) (const p))", "(lam (const Nat) (app (app (const id 0) (app (const P) #0)) (app (const p) #0)))",
			"(let (const Nat) (const two) (lam (const Nat) (let (const Nat) #0 (let (const Nat) #1 (app (lam (const Nat) (app (const p) #0)) #0)))))", "(app (lam (pi (const Nat) (app (const P) #0)) (lam (const Nat) (app #1 #0))) (const p))",
		},
		value: {
			"(app (const p) (const two))", "(let (const Nat) (const two) (app (const p) #0))", "(app (lam (const Nat) (app (const p) #0)) (const two))", "(let (const Nat) (const one) (let (const Nat) (app (const succ) #0) (app (const p) #0)))",
			"(app (lam (const Nat) (let (const Nat) (app (const succ) #0) (app (const p) #0))) (const one))", "(app (app (lam (const Nat) (lam (const Nat) (app (const p) (app (const succ) #1)))) (const one)) (const zero))",
			"(app (let (const Nat) (const one) (lam (const Nat) (app (const p) (app (app (const add) #0) #1)))) (const one))", "(app (app (lam (pi (const Nat) (const Nat)) (lam (const Nat) (app (const p) (app #1 #0)))) (const succ)) (const one))",
			"(app (app (lam (const Nat) (let (const Nat) (app (const succ) #0) (lam (const Nat) (app (const p) #1)))) (const one)) (const zero))", "(let (pi (const Nat) (const Nat)) (lam (const Nat) (app (const succ) #0)) (app (const p) (app #0 (const one))))",
		},
	} {
		for _, text := range texts {
			agreeOn(t, 1000, []declCase{{"(def a () " + typ + " " + text + ")", right}})
			for _, other := range []string{"(pi (const Nat) (app (const P) (const zero)))", "(pi (const Nat) (app (const P) (app (const succ) #0)))", "(app (const P) (const one))", "(app (const P) (const n))", "(pi (const Nat) (app (const P) (const two)))"} {
				agreeOn(t, 1000, []declCase{{"(def a () " + other + " " + text + ")", "FArg"}})
			}
		}
	}
}

// Levels: those that are worth the same under all numbers, and others.
func TestLevels(t *testing.T) {
	def := func(a, b string) string { return "(def a (u v) (sort (s " + a + ")) (sort " + b + "))" }
	const six = "(a b c d e f)"
	agreeOn(t, 1000, []declCase{
		{def("u", "u"), right}, {def("u", "v"), "FArg"}, {def("u", "0"), "FArg"}, {def("0", "(imax u 0)"), right}, {def("(max u (s v))", "(imax u (s v))"), right}, {def("(max u v)", "(imax u v)"), "FArg"},
		{def("(max v u)", "(max u v)"), right}, {def("u", "(imax u u)"), right}, {def("u", "(imax (s 0) u)"), right}, {def("u", "(imax (s (s 0)) u)"), "FArg"}, {def("(s u)", "(imax (s u) u)"), "FArg"},
		{def("(imax (max u v) (s 0))", "(max (s 0) (max v u))"), right}, {def("(imax u (imax v u))", "(imax (max u v) u)"), right}, {def("(imax u (imax v u))", "(imax v (max u v))"), "FArg"},
		{def("(max (s u) u)", "(s u)"), right}, {def("(max (s (s 0)) (s u))", "(s (max (s 0) u))"), right}, {def("(max (s (s 0)) (s u))", "(s u)"), "FArg"}, {def("(max (s 0) u)", "(max 0 u)"), "FArg"},
		{def("(imax u (max u v))", "(max u v)"), right}, {def("(imax u (max u v))", "(max (imax u v) u)"), right},
		{"(def a " + six + " (sort (s (imax a (imax b (imax c (imax d (imax e f))))))) (sort (imax (max a (max b (max c (max d e)))) f)))", right},
		{"(def a " + six + " (sort (s (imax a (imax b (imax c (imax d (imax e f))))))) (sort (imax (max a (max b (max c d))) (imax f e))))", "FArg"},
		{"(def a (w) (sort (s (s (max w w)))) (sort (imax (s 0) (s w))))", right},
		{"(axiom x (u) (sort (s u)))(def a (v) (sort (s (s (s v)))) (const id (s (s (s v)))))", "FArg"},
		{"(def a (u v) (sort (max u v)) (const Any v u))", right}, {"(def a (u v) (sort (imax u v)) (const Any v u))", "FArg"}, {"(def a (u v) (sort (imax u (s v))) (const Any (s v) u))", right},
		{"(def a " + six + " (sort (imax b (max c (imax d (s (max e (imax f a))))))) (const six b c d e f a))", right}, {"(def a " + six + " (sort (imax b (max c (imax d (s (max e (imax a f))))))) (const six b c d e f a))", "FArg"},
		{"(def x (u v) (sort (s (imax u v))) (sort (imax u v)))(def y (v u) (sort (s (imax u v))) (sort (imax u v)))(def a (u v) (pi (const x u v) (const y v u)) (lam (const x u v) #0))", right},
		{"(def x (u v) (sort (s (imax u v))) (sort (imax u v)))(def y (v u) (sort (s (imax u v))) (sort (imax u v)))(def a (u v) (pi (const x u v) (const y u v)) (lam (const x u v) #0))", "FArg"},
		{"(def a (u) (pi (sort u) (sort u)) (lam (sort u) #0))", right}, {"(def a (u) (sort (imax (s u) u)) (pi (sort u) #0))", right}, {"(def a (u) (sort (s u)) (pi (sort u) #0))", "FArg"}, {"(def a (u) (sort 0) (pi (sort u) (pi #0 (app (const P) (const zero)))))", right},
	})
}

// family is the text of a family A with what stands ahead of its constructors, and of its constructors' types.
func family(front string, ctors ...string) string {
	text := "(inductive A " + front
	for i, c := range ctors {
		text += " (ctor c" + strings.Repeat("'", i) + " " + c + ")"
	}
	return text + ")"
}

// Families, with each fault of layers 5 and 6.
func TestFamilies(t *testing.T) {
	const set, a = "() 0 (sort (s 0))", "(const A)"
	one, indexed := "() 1 (pi (const Nat) (sort (s 0)))", "() 0 (pi (sort (s 0)) (sort (s 0)))"
	agreeOn(t, 1000, []declCase{
		{family(set), right}, {family(set, a), right}, {family(set, a, "(pi (const A) (const A))"), right}, {family(set, "(pi (const Nat) (pi (pi (const Nat) (const A)) (const A)))"), right},
		{"(inductive Nat () 0 (sort (s 0)))", "FTwice"}, {"(inductive A () 0 (sort (s 0)) (ctor b (const A)) (ctor zero (const A)))", "FTwice"}, {"(inductive A () 0 (sort (s 0)) (ctor b (const A)) (ctor b #0))", "FTwice"},
		{"(inductive A () 0 (sort (s 0)) (ctor A (const A)))", "FTwice"}, {"(inductive A () 0 (sort (s 0)) (ctor A.rec (const A)))", "FTwice"}, {"(axiom A.rec () (const Nat))(inductive A () 0 #0)", "FTwice"},
		{family("(u u) 7 #0"), "FParam"}, {family("(t u v w x y z) 0 (sort (s 0))"), "FParam"}, {family("() 0 (sort (s u))"), "FParam"}, {family(set, "(pi (sort u) (const A))"), "FParam"},
		{family("() 7 (pi #0 (sort 0))"), "FVar"}, {family(set, "#0"), "FVar"}, {family("() 0 (pi (const A) (sort 0))"), "FName"}, {family(set, "(pi (const c') (const A))", a), "FName"}, {family(set, "(const A.rec)"), "FName"},
		{family("(u) 0 (sort (s u))", a), "FLevels"}, {family(set, "(app (const A) (const zero))"), "FFun"}, {family("() 0 (pi (const Nat) (sort 0))", "(app (const A) (const Nat))"), "FArg"},
		{family("() 0 (const zero)"), "FSort"}, {family("() 0 (pi (const Nat) (sort 0))", a), "FSort"}, {family(set, "(pi (pi (const A) (const Nat)) (const zero))"), "FSort"},
		// The form of the type, and its level.
		{family("() 1 (sort (s 0))", "#0"), "FForm"}, {family("() 0 (const Type)"), "FForm"}, {family("() 0 (let (const Nat) (const zero) (sort (s 0)))"), "FForm"}, {family("() 2 (pi (const Nat) (sort 0))"), "FForm"}, {family("() 2 (pi (const Nat) (pi (const Nat) (sort 0)))"), right},
		{family("(u) 0 (sort u)"), "FForm"}, {family("(u v) 0 (sort (max u v))"), "FForm"}, {family("(u v) 0 (sort (imax (s u) v))"), "FForm"}, {family("(u) 0 (sort (max (s 0) u))"), right}, {family("(u) 0 (sort (imax u 0))"), right}, {family("(u v) 0 (sort (imax u (max v (s 0))))"), right},
		{"(inductive " + strings.Repeat("A", 36) + " () 0 (sort 0))", right}, {"(inductive " + strings.Repeat("A", 37) + " () 0 (sort 0) (ctor c #0))", "FForm"}, {"(inductive A () 0 (sort 0) (ctor " + strings.Repeat("A", 40) + " (const A)))", right},
		// The form of a constructor: its parameters, its result.
		{family(one, "(app (const A) (const zero))"), "FForm"}, {family(one, "(pi (sort 0) (app (const A) (const zero)))"), "FForm"}, {family(one, "(pi (const N) (app (const A) #0))"), right}, {family(one, "(pi (app (const Arr) (app (lam (const Nat) (const zero)) (const one))) (app (const A) #0))"), right},
		{family(one, "(let (const Nat) (const zero) (pi (const Nat) (app (const A) #0)))"), "FForm"}, {family(one, "(pi (const Nat) (pi (const Nat) (app (const A) #0)))"), "FForm"}, {family(one, "(pi (const Nat) (app (const A) (app (lam (const Nat) #0) #0)))"), "FForm"},
		{family("() 2 (pi (sort (s 0)) (pi #0 (sort (s 0))))", "(pi (sort (s 0)) (pi #0 (app (app (const A) #1) #0)))"), right}, {family("() 2 (pi (sort (s 0)) (pi (sort (s 0)) (sort (s 0))))", "(pi (sort (s 0)) (pi (sort (s 0)) (app (app (const A) #0) #1)))"), "FForm"},
		{family("() 2 (pi (sort (s 0)) (pi (pi #0 (sort 0)) (sort (s 0))))", "(pi (sort (s 0)) (pi (pi #0 (sort (s 0))) (pi (pi #1 (sort 0)) (app (app (const A) #2) #0))))"), "FForm"},
		{family(set, "(const Nat)"), "FForm"}, {family(set, "(let (const Nat) (const zero) (const A))"), "FForm"}, {family(set, "(app (app (const id (s (s 0))) (const Type)) (const A))"), "FForm"}, {family(set, "(pi (const Big) (const Nat))"), "FForm"},
		{family("(u v) 0 (sort (s 0))", "(const A u v)"), right}, {family("(u v) 0 (sort (s 0))", "(const A v u)"), "FForm"}, {family("(u v) 0 (sort (s 0))", "(const A (max u u) v)"), "FForm"},
		{family(indexed, "(app (const A) (const Nat))"), right}, {family(indexed, "(app (const A) (app (const A) (const Nat)))"), "FForm"}, {family(indexed, "(app (const A) (app (lam (sort (s 0)) (const Nat)) (app (const A) (const Nat))))"), "FForm"},
		// Where the family stands in an argument.
		{family(set, "(pi (pi (const A) (const Nat)) (const A))"), "FPos"}, {family(set, "(pi (pi (const Nat) (pi (const A) (const A))) (const A))"), "FPos"}, {family(set, "(pi (pi (pi (const Nat) (const A)) (const A)) (const A))"), "FPos"}, {family(set, a, "(pi (app (const List 0) (const A)) (const A))"), "FPos"},
		{family(set, "(pi (let (const Type) (const A) #0) (const A))"), "FPos"}, {family(set, "(pi (app (lam (const Type) (const Nat)) (const A)) (const A))"), "FPos"}, {family(one, "(pi (const Nat) (pi (app (const A) (const zero)) (app (const A) #1)))"), "FPos"},
		{family("(u v) 0 (sort (s 0))", "(pi (const A v u) (const A u v))"), "FPos"}, {family(indexed, "(pi (app (const A) (app (const A) (const Nat))) (app (const A) (const Nat)))"), "FPos"}, {family(set, "(pi (pi (const Nat) (pi (app (const P) #0) (const A))) (const A))"), right},
		{family("() 1 (pi (sort (s 0)) (sort (s 0)))", "(pi (sort (s 0)) (pi #0 (pi (pi (const Nat) (app (const A) #2)) (app (const A) #2))))"), right},
		// How great an argument is.
		{family(set, "(pi (const Big) (const A))"), "FLevel"}, {family(set, "(pi (sort (s 0)) (const A))"), "FLevel"}, {family(set, "(pi (sort 0) (const A))"), right}, {family(set, a, "(pi (const Nat) (pi (pi (const Big) (const A)) (const A)))"), "FLevel"}, {family(set, "(pi (pi (const Big) (app (const P) (const zero))) (const A))"), right},
		{family("() 0 (sort 0)", "(pi (const Big) (const A))"), right}, {family("(u) 0 (sort (imax u 0))", "(pi (sort (s (s u))) (const A u))"), right}, {family("(u) 0 (sort (s u))", "(pi (sort u) (const A u))"), right}, {family("(u) 0 (sort (max (s 0) u))", "(pi (sort u) (const A u))"), "FLevel"},
		{family("(u v) 0 (sort (max u (s v)))", "(pi (const Any (imax u v) 0) (pi (const Any (max v u) v) (const A u v)))"), right}, {family("() 1 (pi (sort (s 0)) (sort (s 0)))", "(pi (sort (s 0)) (pi (sort (s 0)) (app (const A) #1)))"), "FLevel"},
		// Which comes first.
		{family(set, "(pi (const Big) (pi (pi (const A) (const Nat)) (const A)))"), "FLevel"}, {family(set, "(pi (pi (const A) (const Big)) (const A))"), "FPos"}, {family(set, "(pi (pi (const A) (const Nat)) (const Nat))"), "FForm"}, {family(set, "(pi (const Big) (const A))", "#0"), "FLevel"},
	})
}

// Which families are large: their recursors have a level more, and make things of any sort.
func TestLargeAndSmall(t *testing.T) {
	const prop = "() 0 (sort 0)"
	for _, c := range []struct {
		text  string
		large bool
	}{
		{family("() 0 (sort (s 0))", "(const A)", "(const A)"), true}, {family(prop), true}, {family(prop, "(const A)"), true}, {family(prop, "(const A)", "(const A)"), false}, {family(prop, "(pi (const False) (pi (app (const P) (const n)) (const A)))"), true},
		{family(prop, "(pi (const Nat) (const A))"), false}, {family(prop, "(pi (const A) (const A))"), true}, {family(prop, "(pi (pi (const Big) (const A)) (const A))"), true},
		{family("() 0 (pi (const Nat) (sort 0))", "(pi (const Nat) (app (const A) #0))"), true}, {family("() 0 (pi (const Nat) (sort 0))", "(pi (const Nat) (app (const A) (app (const succ) #0)))"), false},
		{family("() 1 (pi (const Nat) (sort 0))", "(pi (const Nat) (app (const A) #0))"), true}, {family("() 1 (pi (const Nat) (sort 0))", "(pi (const Nat) (pi (const Nat) (app (const A) #1)))"), false},
		{family("() 0 (pi (const Nat) (pi (const Nat) (sort 0)))", "(pi (const Nat) (pi (const Nat) (app (app (const A) #0) #1)))"), true}, {family("() 0 (pi (const Nat) (pi (const Nat) (sort 0)))", "(pi (const Nat) (pi (const Nat) (app (app (const A) #0) #0)))"), false},
	} {
		without, with := "FArg", "FLevels" // it is no proposition: that is told where its levels are right
		if c.large {
			without, with = with, without
		}
		agreeOn(t, 1000, []declCase{{c.text + "(def x () (sort 0) (const A.rec))", without}, {c.text + "(def x () (sort 0) (const A.rec 0))", with}})
	}
}

// A wrong declaration of each kind, as the first, in the middle and as the last.
func TestPlaces(t *testing.T) {
	lines := strings.SplitAfter(worldText, "\n")[:worldSize]
	for _, c := range []declCase{
		{"(axiom a () #0)", "FVar"}, {"(axiom a (u) (sort v))", "FParam"}, {"(axiom a () (const none))", "FName"}, {"(def a () (sort 0) (sort 0))", "FArg"}, {"(def a () (sort (s 0)) (app (sort 0) (sort 0)))", "FFun"}, {"(axiom a () (lam (sort 0) #0))", "FSort"},
		{"(inductive A () 1 (sort 0))", "FForm"}, {"(inductive A () 0 (sort (s 0)) (ctor a (pi (pi (const A) (const A)) (const A))))", "FPos"}, {"(inductive A () 0 (sort (s 0)) (ctor a (pi (sort (s 0)) (const A))))", "FLevel"}, {"(inductive A () 0 (sort 0) (ctor A #0))", "FTwice"},
	} {
		for _, at := range []int{0, 1, 2, worldSize / 2, worldSize - 1, worldSize} {
			agreeAll(t, 1000, []textCase{{strings.Join(lines[:at], "") + c.text + strings.Join(lines[at:], ""), at, c.want + " at " + strconv.Itoa(at)}})
		}
	}
	for at := range worldSize { // each one twice, and each one left out
		agreeAll(t, 1000, []textCase{{worldText + lines[at], worldSize, "FTwice at " + strconv.Itoa(worldSize)}, {strings.Join(lines[:at], ""), at, right}})
		agrees(t, strings.Join(lines[:at], "")+strings.Join(lines[at+1:], ""), 1000)
	}
}

// A fault of the text is told ahead of all others, with its place.
func TestFaultsOfTheText(t *testing.T) {
	size := len(worldText)
	padded := func(text string, n int) string { return text + strings.Repeat(" ", n-len(text)) }
	for _, fuel := range []int{0, 1000} {
		agreeAll(t, fuel, []textCase{
			{")", 0, "FText at 0"}, {"(", 0, "FText at 1"}, {"  axiom", 0, "FText at 2"}, {"(axiom a () (sort 0)", 0, "FText at 20"}, {"(axiom a () (sort 0)))", 0, "FText at 21"}, {"(axiom a () (sort 1))", 0, "FText at 18"}, {"(axiom a () #100000)", 0, "FText at 12"},
			{"(inductive A () 100 (sort 0))", 0, "FText at 16"}, {"(axiom " + strings.Repeat("a", 41) + " () (sort 0))", 0, "FText at 7"}, {"(axiom a () #0) (axiom a () (const none)) (axiom b", 0, "FText at 50"}, {"(axiom a () #0)\xff", 0, "FText at 15"}, {"(axiom a () (app #0))", 0, "FText at 19"},
			{worldText + ")", 0, "FText at " + strconv.Itoa(size)}, {worldText + " \n(theorem a () (sort 0))", 0, "FText at " + strconv.Itoa(size+3)}, {worldText + worldText + "#0", 0, "FText at " + strconv.Itoa(2*size)},
			{padded("(axiom a () (sort 0))", 200000), 1, right}, {padded("(axiom a () (sort 0))", 200001), 0, "FLong at 0"}, {padded("(axiom a () #0)", 200000), 0, "FVar at 0"}, {padded("(axiom a () #0)", 200001), 0, "FLong at 0"},
			{padded(")", 200000), 0, "FText at 0"}, {padded(")", 200001), 0, "FLong at 0"}, {padded("", 200000), 0, right}, {padded("", 1000000), 0, "FLong at 0"},
		})
	}
	text := "(axiom a () (sort 0))\n(inductive E (u) 2 (pi (sort u) (pi #0 (pi #1 (sort 0)))) (ctor r (pi (sort u) (pi #0 (app (app (app (const E u) #1) #0) #0)))))(def b () (sort (s (s 0))) (sort (s 0)))"
	for n := range len(text) {
		agrees(t, text[:n], 0)
		agrees(t, text[n:], 0)
	}
}

// How a text is laid out says nothing.
func TestLayouts(t *testing.T) {
	for _, text := range []string{
		strings.ReplaceAll(worldText, "\n", ""), strings.ReplaceAll(worldText, " ", "\n\t "), strings.ReplaceAll(strings.ReplaceAll(worldText, "(", " ( "), ")", " ) "), strings.ReplaceAll(strings.ReplaceAll(worldText, ") (", ")("), " #", "#"),
	} {
		agreeAll(t, 1000, []textCase{{text, worldSize, right}})
	}
}
