package induct

import (
	"strings"
	"testing"

	"provekernel/api"
	"provekernel/reduce"
)

// of is the text of a family A of that sort, with no parameters, and of its constructors' types.
func of(sort string, ctors ...string) string {
	return familyText("() 0 "+sort, ctors...)
}

// familyText is the text of a family A with what stands ahead of its constructors, and of its constructors' types.
func familyText(front string, ctors ...string) string {
	text := "(inductive A " + front
	for i, c := range ctors {
		text += " (ctor c" + strings.Repeat("'", i) + " " + c + ")"
	}
	return text + ")"
}

const (
	set   = "(sort (s 0))"
	prop  = "(sort 0)"
	a     = "(const A)"
	nat   = "(const Nat)"
	idNat = "(app (app (const id (s (s 0))) (const Type)) (const Nat))"
)

func TestNamesThatAreThere(t *testing.T) {
	e := world(t)
	e.Put(declared(t, "(axiom B.rec () (const Nat))")[0], nil, api.Term{})
	tellsAll(t, e, 1000, []pair{
		// The family's.
		{"(inductive Nat () 0 (sort (s 0)))", "FTwice"},
		{"(inductive zero () 0 (sort (s 0)))", "FTwice"},
		{"(inductive Nat.rec () 0 (sort (s 0)))", "FTwice"},
		{"(inductive one () 0 (sort (s 0)))", "FTwice"},
		{"(inductive P () 0 (sort (s 0)))", "FTwice"},
		{"(inductive False () 0 (sort 0))", "FTwice"},
		// A constructor's.
		{"(inductive A () 0 (sort (s 0)) (ctor zero (const A)))", "FTwice"},
		{"(inductive A () 0 (sort (s 0)) (ctor Nat (const A)))", "FTwice"},
		{"(inductive A () 0 (sort (s 0)) (ctor b (const A)) (ctor Vec.rec (const A)))", "FTwice"},
		{"(inductive A () 0 (sort (s 0)) (ctor b (const A)) (ctor c (const A)) (ctor one (const A)))", "FTwice"},
		{"(inductive A () 0 (sort (s 0)) (ctor A (const A)))", "FTwice"},
		{"(inductive A () 0 (sort (s 0)) (ctor b (const A)) (ctor A (const A)))", "FTwice"},
		{"(inductive A () 0 (sort (s 0)) (ctor b (const A)) (ctor b (const A)))", "FTwice"},
		{"(inductive A () 0 (sort (s 0)) (ctor b (const A)) (ctor c (const A)) (ctor b (const A)))", "FTwice"},
		// The recursor's.
		{"(inductive B () 0 (sort (s 0)))", "FTwice"},
		{"(inductive A () 0 (sort (s 0)) (ctor A.rec (const A)))", "FTwice"},
		{"(inductive A () 0 (sort (s 0)) (ctor b (const A)) (ctor A.rec (const A)) (ctor c (const A)))", "FTwice"},
		// These are other names.
		{"(inductive A () 0 (sort (s 0)) (ctor rec (const A)) (ctor a (const A)) (ctor c.rec (const A)) (ctor A.rec.rec (const A)) (ctor A.r (const A)))", right},
		{"(inductive A (A.rec A b) 0 (sort (s 0)) (ctor b (const A A.rec A b)))", right},
		{"(inductive B.rec.rec () 0 (sort (s 0)) (ctor B (const B.rec.rec)))", right},
		{"(inductive rec () 0 (sort (s 0)))", right},
	})
}

func TestParametersOfLevels(t *testing.T) {
	tellsAll(t, world(t), 1000, []pair{
		{familyText("(u u) 0 (sort (s 0))"), "FParam"},
		{familyText("(u v u) 0 (sort (s 0))"), "FParam"},
		{familyText("(u v w v) 0 (sort (s v))"), "FParam"},
		{familyText("(a b c d e f g) 0 (sort (s 0))"), "FParam"},
		{familyText("(a b c d e f a) 0 (sort (s 0))"), "FParam"},
		{familyText("(a b c d e f) 0 (sort (s (max a (max b (max c (max d (max e f)))))))", "(pi (sort f) (const A a b c d e f))"), right},
		{familyText("(r u) 0 (sort (s 0))"), right},
	})
}

func TestFamiliesTypes(t *testing.T) {
	tellsAll(t, world(t), 1000, []pair{
		// Sort of it.
		{of("#0"), "FVar"},
		{of("(pi (const Nat) #1)"), "FVar"},
		{of("(sort u)"), "FParam"},
		{familyText("(v) 0 (sort (s u))"), "FParam"},
		{of("(pi (const none) (sort (s 0)))"), "FName"},
		{of("(pi (const A) (sort (s 0)))"), "FName"},
		{of("(pi (const Eq) (sort (s 0)))"), "FLevels"},
		{of("(pi (app (const Nat) (const Nat)) (sort (s 0)))"), "FFun"},
		{of("(pi (app (const P) (const Nat)) (sort (s 0)))"), "FArg"},
		{of("(const zero)"), "FSort"},
		{of("(pi (const zero) (sort (s 0)))"), "FSort"},
		{of("(lam (const Nat) (sort (s 0)))"), "FSort"},
		// Its form.
		{of("(const Nat)"), "FForm"},
		{of("(const Type)"), "FForm"},
		{of("(pi (const Nat) (const Nat))"), "FForm"},
		{of("(app (app (const id (s (s (s 0)))) (sort (s (s 0)))) (sort (s 0)))"), "FForm"},
		{of("(let (sort (s (s 0))) (sort (s 0)) #0)"), "FForm"},
		{of("(let (const Nat) (const zero) (sort (s 0)))"), "FForm"},
		{of("(pi (const Nat) (let (const Nat) #0 (sort (s 0))))"), "FForm"},
		{familyText("() 1 (sort (s 0))"), "FForm"},
		{familyText("() 2 (pi (const Nat) (sort (s 0)))"), "FForm"},
		{familyText("() 1 (let (const Nat) (const zero) (pi (const Nat) (sort (s 0))))"), "FForm"},
		{familyText("() 99 (pi (const Nat) (sort (s 0)))"), "FForm"},
		{familyText("() 2 (pi (const Nat) (pi (const Nat) (sort (s 0))))"), right},
		{familyText("() 1 (pi (const Nat) (pi (const Nat) (sort (s 0))))"), right},
		{familyText("() 0 (pi (const Nat) (pi (const Nat) (sort (s 0))))"), right},
		{of("(pi (app (app (const id (s (s 0))) (const Type)) (const Nat)) (sort (s 0)))"), right},
		// Its level.
		{familyText("(u) 0 (sort u)"), "FForm"},
		{familyText("(u v) 0 (sort (max u v))"), "FForm"},
		{familyText("(u v) 0 (sort (imax (s u) v))"), "FForm"},
		{familyText("(u) 0 (pi (const Nat) (sort (imax (s (s 0)) u)))"), "FForm"},
		{familyText("(u v) 0 (sort (max v (imax u 0)))"), "FForm"},
		{familyText("(u) 0 (sort (s u))"), right},
		{familyText("(u) 0 (sort (max (s 0) u))"), right},
		{familyText("(u v) 0 (sort (max u (s v)))"), right},
		{familyText("(u) 0 (sort (imax u (s 0)))"), right},
		{familyText("(u v) 0 (sort (imax u (max v (s 0))))"), right},
		{of("(sort 0)"), right},
		{of("(sort (max 0 0))"), right},
		{familyText("(u) 0 (sort (imax u 0))"), right},
		{familyText("(u) 0 (sort (imax (s u) (max 0 (imax u 0))))"), right},
	})
}

func TestLengthOfTheName(t *testing.T) {
	e := world(t)
	for n, want := range map[int]string{1: right, 35: right, 36: right, 37: "FForm", 38: "FForm", 40: "FForm"} {
		name := strings.Repeat("n", n)
		tellsAll(t, e, 1000, []pair{
			{"(inductive " + name + " () 0 (sort (s 0)))", want},
			{"(inductive " + name + " () 0 (pi (const Nat) (sort 0)) (ctor a (app (const " + name + ") (const zero))))", want},
			{"(inductive A () 0 (sort (s 0)) (ctor " + name + " (const A)))", right},
			{"(inductive A (" + name + ") 0 (sort (s " + name + ")))", right},
		})
	}
}

func TestConstructorsSorts(t *testing.T) {
	tellsAll(t, world(t), 1000, []pair{
		{of(set, "#0"), "FVar"},
		{of(set, "(pi #0 (const A))"), "FVar"},
		{of(set, "(pi (sort u) (const A))"), "FParam"},
		{familyText("(u) 0 (sort (s u))", "(pi (sort v) (const A u))"), "FParam"},
		{of(set, "(const B)"), "FName"},
		{of(set, "(pi (const c) (const A))"), "FName"},
		{of("(pi (const Nat) (sort 0))", "(app (const A) (const zero))", "(pi (app (const A) (const c)) (app (const A) (const zero)))"), "FName"},
		{of(set, "(pi (app (const A.rec) (const zero)) (const A))"), "FName"},
		{familyText("(u) 0 (sort (s u))", a), "FLevels"},
		{of(set, "(const A 0)"), "FLevels"},
		{of(set, "(pi (const Eq) (const A))"), "FLevels"},
		{of(set, "(app (const A) (const zero))"), "FFun"},
		{of("(pi (const Nat) (sort (s 0)))", "(app (app (const A) (const zero)) (const zero))"), "FFun"},
		{of("(pi (const Nat) (sort (s 0)))", "(app (const A) (const Nat))"), "FArg"},
		{of("(pi (const Nat) (sort (s 0)))", "(pi (const A) (app (const A) (const zero)))"), "FSort"},
		{of("(pi (const Nat) (sort (s 0)))", a), "FSort"},
		{of(set, "(const zero)"), "FSort"},
		{of(set, "(pi (const zero) (const A))"), "FSort"},
		{of(set, "(lam (const A) (const A))"), "FSort"},
		{of(set, a, "#0"), "FVar"},
		{of(set, a, "(pi (const A) (const A))", "(pi (const A) #1)"), "FVar"},
	})
}

func TestConstructorsForms(t *testing.T) {
	two := "() 2 (pi (sort (s 0)) (pi (sort (s 0)) (sort (s 0))))"
	leveled := "(u v) 0 (sort (s 0))"
	tellsAll(t, world(t), 1000, []pair{
		// The parameters.
		{familyText("() 1 (pi (const Nat) (sort (s 0)))", "(app (const A) (const zero))"), "FForm"},
		{familyText("() 2 (pi (const Nat) (pi (const Nat) (sort (s 0))))", "(pi (const Nat) (app (app (const A) #0) #0))"), "FForm"},
		{familyText("() 1 (pi (const Nat) (sort (s 0)))", "(pi (sort 0) (app (const A) (const zero)))"), "FForm"},
		{familyText("() 1 (pi (const Nat) (sort (s 0)))", "(pi (const List 0) (app (const A) (const zero)))"), "FSort"},
		{familyText("() 2 (pi (const Nat) (pi (const Nat) (sort (s 0))))", "(pi (const Nat) (pi (app (const P) #0) (app (app (const A) #1) #1)))"), "FForm"},
		{familyText("() 2 (pi (sort (s 0)) (pi #0 (sort (s 0))))", "(pi (sort (s 0)) (pi #0 (app (app (const A) #1) #0)))"), right},
		{familyText("() 2 (pi (sort (s 0)) (pi (pi #0 (sort 0)) (sort (s 0))))", "(pi (sort (s 0)) (pi (pi #0 (sort (s 0))) (pi (pi #1 (sort 0)) (app (app (const A) #2) #0))))"), "FForm"},
		{familyText("() 1 (pi (const Nat) (sort (s 0)))", "(let (const Nat) (const zero) (pi (const Nat) (app (const A) #0)))"), "FForm"},
		{familyText("() 1 (pi (const Nat) (sort (s 0)))", "(pi (const N) (app (const A) #0))"), right},
		{familyText("() 1 (pi (const N) (sort (s 0)))", "(pi (const Nat) (app (const A) #0))"), right},
		{familyText("() 1 (pi (const N) (sort (s 0)))", "(pi "+idNat+" (app (const A) #0))"), right},
		{familyText("(u) 1 (pi (sort (max u 0)) (sort (s u)))", "(pi (sort u) (app (const A u) #0))"), right},
		{familyText("(u) 1 (pi (sort (s u)) (sort (s u)))", "(pi (sort u) (app (const A u) #0))"), "FArg"},
		{familyText("() 1 (pi (const Nat) (sort (s 0)))", "(pi (app (lam (sort (s 0)) (const Nat)) (app (const A) (const zero))) (app (const A) #0))"), right},
		// The result.
		{of(set, nat), "FForm"},
		{of(set, "(pi (const A) (const Nat))"), "FForm"},
		{of(set, "(sort 0)"), "FForm"},
		{of(set, "(let (const Nat) (const zero) (const A))"), "FForm"},
		{of(set, "(pi (const Nat) (let (const Nat) #0 (const A)))"), "FForm"},
		{of(set, "(app (app (const id (s (s 0))) (const Type)) (const A))"), "FForm"},
		{of(set, "(app (lam (const Nat) (const A)) (const zero))"), "FForm"},
		{of(set, a, "(app (const List 0) (const A))"), "FForm"},
		// Its levels.
		{familyText(leveled, "(const A u v)"), right},
		{familyText(leveled, "(const A v u)"), "FForm"},
		{familyText(leveled, "(const A u u)"), "FForm"},
		{familyText(leveled, "(const A 0 v)"), "FForm"},
		{familyText(leveled, "(const A (max u u) v)"), "FForm"},
		{familyText(leveled, "(const A u (imax 0 v))"), "FForm"},
		// The parameters' variables.
		{familyText(two, "(pi (sort (s 0)) (pi (sort (s 0)) (app (app (const A) #1) #0)))"), right},
		{familyText(two, "(pi (sort (s 0)) (pi (sort (s 0)) (app (app (const A) #0) #1)))"), "FForm"},
		{familyText(two, "(pi (sort (s 0)) (pi (sort (s 0)) (app (app (const A) #1) #1)))"), "FForm"},
		{familyText(two, "(pi (sort (s 0)) (pi (sort (s 0)) (app (app (const A) #1) (const Nat))))"), "FForm"},
		{familyText(two, "(pi (sort (s 0)) (pi (sort (s 0)) (app (app (const A) (const Nat)) #0)))"), "FForm"},
		{familyText("() 1 (pi (const Nat) (sort (s 0)))", "(pi (const Nat) (pi (const Nat) (app (const A) #0)))"), "FForm"},
		{familyText("() 1 (pi (const Nat) (sort (s 0)))", "(pi (const Nat) (pi (const Nat) (app (const A) #1)))"), right},
		{familyText("() 1 (pi (const Nat) (sort (s 0)))", "(pi (const Nat) (app (const A) (app (lam (const Nat) #0) #0)))"), "FForm"},
		{familyText("() 1 (pi (const Nat) (pi (const Nat) (sort (s 0))))", "(pi (const Nat) (pi (const Nat) (app (app (const A) #1) (app (const succ) #1))))"), right},
		{familyText("() 1 (pi (const Nat) (pi (const Nat) (sort (s 0))))", "(pi (const Nat) (pi (const Nat) (app (app (const A) #0) #1)))"), "FForm"},
		// The indices.
		{of("(pi (sort (s 0)) (sort (s 0)))", "(app (const A) (const Nat))"), right},
		{of("(pi (sort (s 0)) (sort (s 0)))", "(app (const A) (app (const A) (const Nat)))"), "FForm"},
		{of("(pi (sort (s 0)) (sort (s 0)))", "(app (const A) (pi (const Nat) (app (const A) (const Nat))))"), "FForm"},
		{of("(pi (sort (s 0)) (pi (sort (s 0)) (sort (s 0))))", "(app (app (const A) (const Nat)) (app (app (const A) (const Nat)) (const Nat)))"), "FForm"},
		{of("(pi (sort (s 0)) (sort (s 0)))", "(app (const A) (app (lam (sort (s 0)) (const Nat)) (app (const A) (const Nat))))"), "FForm"},
	})
}

func TestPositions(t *testing.T) {
	one := "() 1 (pi (sort (s 0)) (sort (s 0)))"
	indexed := "(pi (sort (s 0)) (sort (s (s 0))))"
	tellsAll(t, world(t), 1000, []pair{
		{of(set, "(pi (const A) (const A))"), right},
		{of(set, "(pi (pi (const Nat) (const A)) (const A))"), right},
		{of(set, "(pi (pi (const Nat) (pi (app (const P) #0) (const A))) (const A))"), right},
		{of(set, "(pi (pi (pi (const Nat) (const Nat)) (const A)) (const A))"), right},
		{of(set, "(pi (pi (const A) (const Nat)) (const A))"), "FPos"},
		{of(set, "(pi (pi (const A) (const A)) (const A))"), "FPos"},
		{of(set, "(pi (pi (const Nat) (pi (const A) (const A))) (const A))"), "FPos"},
		{of(set, "(pi (pi (pi (const A) (const Nat)) (const A)) (const A))"), "FPos"},
		{of(set, "(pi (pi (pi (const Nat) (const A)) (const A)) (const A))"), "FPos"},
		{of(set, "(pi (app (const List 0) (const A)) (const A))"), "FPos"},
		{of(set, "(pi (pi (const Nat) (app (const List 0) (const A))) (const A))"), "FPos"},
		{of(set, "(pi (app (app (const id (s (s 0))) (const Type)) (const A)) (const A))"), "FPos"},
		{of(set, "(pi (let (const Type) (const A) #0) (const A))"), "FPos"},
		{of(set, "(pi (let (const Nat) (const zero) (const A)) (const A))"), "FPos"},
		{of(set, "(pi (app (lam (const Type) (const Nat)) (const A)) (const A))"), "FPos"},
		{of(set, "(pi (pi (app (lam (const Type) (const Nat)) (const A)) (const A)) (const A))"), "FPos"},
		{of(prop, "(pi (pi (const A) (const False)) (const A))"), "FPos"},
		{of(set, "(pi (const Nat) (pi (const A) (pi (pi (const A) (const Nat)) (const A))))"), "FPos"},
		{of(set, a, "(pi (pi (const A) (const Nat)) (const A))"), "FPos"},
		// Applied to something else than the parameters' variables.
		{familyText(one, "(pi (sort (s 0)) (pi (app (const A) #0) (app (const A) #1)))"), right},
		{familyText(one, "(pi (sort (s 0)) (pi #0 (pi (pi (const Nat) (app (const A) #2)) (app (const A) #2))))"), right},
		{familyText(one, "(pi (sort (s 0)) (pi (app (const A) (const Nat)) (app (const A) #1)))"), "FPos"},
		{familyText(one, "(pi (sort (s 0)) (pi (app (const A) (app (const List 0) #0)) (app (const A) #1)))"), "FPos"},
		{familyText("(u) 1 (pi (sort (s u)) (sort (s (s u))))", "(pi (sort (s u)) (pi (sort u) (pi (pi (sort u) (app (const A u) #0)) (app (const A u) #2))))"), "FArg"},
		{familyText("() 1 (pi (sort (s 0)) (sort (s (s 0))))", "(pi (sort (s 0)) (pi (sort (s 0)) (pi (app (const A) #0) (app (const A) #2))))"), "FPos"},
		{familyText("() 1 (pi (sort (s 0)) (sort (s (s 0))))", "(pi (sort (s 0)) (pi (pi (sort (s 0)) (app (const A) #0)) (app (const A) #1)))"), "FPos"},
		{familyText("() 2 (pi (sort (s 0)) (pi (sort (s 0)) (sort (s 0))))", "(pi (sort (s 0)) (pi (sort (s 0)) (pi (app (app (const A) #0) #1) (app (app (const A) #2) #1))))"), "FPos"},
		// With other levels.
		{familyText("(u v) 0 (sort (s 0))", "(pi (const A u v) (const A u v))"), right},
		{familyText("(u v) 0 (sort (s 0))", "(pi (const A v u) (const A u v))"), "FPos"},
		{familyText("(u) 0 (sort (s 0))", "(pi (const A (max u u)) (const A u))"), "FPos"},
		{familyText("(u) 0 (sort (s 0))", "(pi (pi (const Nat) (const A 0)) (const A u))"), "FPos"},
		// In an index.
		{of(indexed, "(pi (app (const A) (const Nat)) (app (const A) (const Nat)))"), right},
		{of("(pi (sort (s 0)) (sort (s 0)))", "(pi (app (const A) (app (const A) (const Nat))) (app (const A) (const Nat)))"), "FPos"},
		{of("(pi (sort (s 0)) (sort (s 0)))", "(pi (pi (const Nat) (app (const A) (app (const A) (const Nat)))) (app (const A) (const Nat)))"), "FPos"},
	})
}

func TestLevelsOfArguments(t *testing.T) {
	tellsAll(t, world(t), 1000, []pair{
		{of(set, "(pi (sort 0) (const A))"), right},
		{of(set, "(pi (sort (s 0)) (const A))"), "FLevel"},
		{of("(sort (s (s 0)))", "(pi (sort (s 0)) (const A))"), right},
		{of("(sort (s (s 0)))", "(pi (const Big) (const A))"), right},
		{of(set, "(pi (const Big) (const A))"), "FLevel"},
		{of(set, "(pi (const Nat) (pi (const Big) (const A)))"), "FLevel"},
		{of(set, a, "(pi (const Big) (const A))"), "FLevel"},
		{of(set, "(pi (pi (const Big) (const Nat)) (const A))"), "FLevel"},
		{of(set, "(pi (pi (const Nat) (const Big)) (const A))"), "FLevel"},
		{of(set, "(pi (pi (const Big) (app (const P) (const zero))) (const A))"), right},
		{of(set, "(pi (pi (const Big) (const A)) (const A))"), "FLevel"},
		{of("(pi (sort (s 0)) (sort (s 0)))", "(pi (sort (s 0)) (app (const A) #0))"), "FLevel"},
		{of("(pi (sort (s 0)) (sort (s (s 0))))", "(pi (sort (s 0)) (app (const A) #0))"), right},
		// A parameter may be of any universe.
		{familyText("() 1 (pi (sort (s 0)) (sort (s 0)))", "(pi (sort (s 0)) (pi #0 (app (const A) #1)))"), right},
		{familyText("() 1 (pi (sort (s 0)) (sort (s 0)))", "(pi (sort (s 0)) (pi (sort (s 0)) (app (const A) #1)))"), "FLevel"},
		// With parameters of levels.
		{familyText("(u) 0 (sort (s u))", "(pi (sort u) (const A u))"), right},
		{familyText("(u) 0 (sort (max (s 0) u))", "(pi (const Any u) (const A u))"), right},
		{familyText("(u) 0 (sort (max (s 0) u))", "(pi (sort u) (const A u))"), "FLevel"},
		{familyText("(u v) 0 (sort (s u))", "(pi (sort v) (const A u v))"), "FLevel"},
		{familyText("(u v) 0 (sort (s (max u v)))", "(pi (sort v) (pi (sort u) (pi (sort (imax u v)) (const A u v))))"), right},
		{familyText("(u) 0 (sort (s 0))", "(pi (const Any u) (const A u))"), "FLevel"},
		{familyText("(u) 0 (sort (s 0))", "(pi (pi (const Any u) (app (const P) (const zero))) (const A u))"), right},
		{familyText("(u v) 0 (sort (max u (s v)))", "(pi (const Any (imax u v)) (pi (const Any (max v u)) (const A u v)))"), right},
		// A proposition's arguments may be of any, too.
		{of(prop, "(pi (sort (s (s 0))) (const A))"), right},
		{of(prop, "(pi (pi (const Big) (const A)) (pi (const Big) (const A)))"), right},
		{familyText("(u) 0 (sort (imax u 0))", "(pi (sort (s (s u))) (const A u))"), right},
	})
}

// Of two faults the one is told that stands ahead in the chapter.
func TestWhichFaultIsTold(t *testing.T) {
	e := world(t)
	e.Put(declared(t, "(axiom B.rec () (const Nat))")[0], nil, api.Term{})
	tellsAll(t, e, 1000, []pair{
		{"(inductive Nat (u u) 0 #0)", "FTwice"},
		{"(inductive A (u u) 0 #0 (ctor b #0) (ctor c #0) (ctor b #0))", "FTwice"},
		{"(inductive A () 0 (const Nat) (ctor zero #0))", "FTwice"},
		{"(inductive B (a b c d e f g) 3 (const none))", "FTwice"},
		{"(inductive B () 3 (const none) (ctor b #0))", "FTwice"},
		{familyText("(u u) 7 #0", "#0"), "FParam"},
		{familyText("(a b c d e f g) 1 (sort a)", a), "FParam"},
		{familyText("() 7 #0"), "FVar"},
		{familyText("() 2 (pi (const Nat) (const none))", "#0"), "FName"},
		{familyText("() 1 (sort (s 0))", "#0"), "FForm"},
		{familyText("(u) 0 (sort u)", "(const none)"), "FForm"},
		{"(inductive " + strings.Repeat("n", 37) + " () 0 (sort u))", "FParam"},
		{"(inductive " + strings.Repeat("n", 37) + " () 0 (sort 0) (ctor a #0))", "FForm"},
		// Of a constructor: its sort, the whole of its form, then its arguments.
		{of(set, "(pi (pi (const A) (const Nat)) (pi (const Big) (app (const succ) (const zero))))"), "FSort"},
		{of(set, "(pi (pi (const A) (const Nat)) (pi (const zero) (const Nat)))"), "FSort"},
		{of(set, "(pi (const Big) (app (const P) (const Nat)))"), "FArg"},
		{of(set, "(pi (pi (const A) (const Nat)) (const Nat))"), "FForm"},
		{of(set, "(pi (const Big) (const Nat))"), "FForm"},
		{familyText("() 1 (pi (const Nat) (sort (s 0)))", "(pi (sort 0) (pi #0 #2))"), "FVar"},
		{familyText("() 1 (pi (const Nat) (sort (s 0)))", "(pi (const Nat) (pi (pi (app (const A) #0) (const Nat)) (app (const A) (const zero))))"), "FForm"},
		{of("(pi (sort (s 0)) (sort (s 0)))", "(pi (const Big) (app (const A) (app (const A) (const Nat))))"), "FForm"},
		// Of arguments: one by one.
		{of(set, "(pi (pi (const A) (const Big)) (const A))"), "FPos"},
		{of(set, "(pi (pi (const A) (const Nat)) (pi (const Big) (const A)))"), "FPos"},
		{of(set, "(pi (const Big) (pi (pi (const A) (const Nat)) (const A)))"), "FLevel"},
		{of(set, "(pi (pi (const Big) (const A)) (pi (pi (const A) (const Nat)) (const A)))"), "FLevel"},
		// Of constructors: one by one.
		{of(set, "(pi (pi (const A) (const Nat)) (const A))", "#0"), "FPos"},
		{of(set, "(pi (const Big) (const A))", "(const none)"), "FLevel"},
		{of(set, nat, "(pi (const Big) (const A))"), "FForm"},
		{of(set, a, "#0", nat), "FVar"},
		{of(set, a, "(pi (const Big) (const A))", nat), "FLevel"},
	})
}

func TestFuel(t *testing.T) {
	e := world(t)
	param := "() 1 (pi (const Nat) (sort (s 0)))"
	for _, c := range []struct {
		text   string
		needed int    // with less it is FTired
		want   string // .. else this
	}{
		{of(set, a, "(pi (const A) (const A))"), 0, right},
		{of("(pi (const N) (sort (s 0)))", "(app (const A) (const one))"), 1, right},                              // Sort of the type: of N, that is Type
		{of(set, "(pi (const N) (const A))"), 1, right},                                                           // Sort of the constructor
		{of("(pi (const Nat) (sort (s 0)))", "(pi (const Nat) (app (const A) #0))"), 0, right},                    // nothing takes a step
		{familyText(param, "(pi (const Nat) (pi (const N) (app (const A) #1)))"), 1, right},                       // Sort of the constructor
		{familyText(param, "(pi (const N) (app (const A) #0))"), 1, right},                                        // its parameter's type is equal
		{familyText(param, "(pi "+idNat+" (app (const A) #0))"), 3, right},                                        // that takes three steps, its sort one
		{familyText(param, "(pi (pi "+idNat+" (sort 0)) (app (const A) (const zero)))"), 3, "FForm"},              // .. and it is not
		{familyText("() 1 (pi "+idNat+" (sort (s 0)))", "(pi "+idNat+" (app (const A) #0))"), 6, right},           // both types' steps count
		{familyText(param, "(app (const A) "+"(app (app (const id (s 0)) (const N)) (const zero)))"), 1, "FForm"}, // no pi: that is seen first
	} {
		for fuel := range 8 {
			want := c.want
			if fuel < c.needed {
				want = "FTired"
			}
			tellsAll(t, e, fuel, []pair{{c.text, want}})
		}
	}
	for _, fuel := range []int{-1, -1000} {
		tellsAll(t, e, fuel, []pair{{of(set, a), right}, {of(set, "(pi (const N) (const A))"), "FTired"}})
	}
	// A name, a parameter, a form are looked at without a step.
	tellsAll(t, e, 0, []pair{
		{"(inductive Nat () 0 (pi (const N) (sort (s 0))))", "FTwice"},
		{familyText("(u u) 0 (pi (const N) (sort (s 0)))"), "FParam"},
		{of("(pi (const N) (const zero))"), "FTired"},
		{of("(pi (const Nat) (const Nat))", "(pi (const N) (const A))"), "FForm"},
		{of(set, nat, "(pi (const N) (const A))"), "FForm"},
	})
}

// The chapter's examples, and the document's.
func TestExamples(t *testing.T) {
	e := reduce.New()
	tellsAll(t, e, 1000, []pair{{
		"(inductive Nat () 0 (sort (s 0)) (ctor zero (const Nat)) (ctor succ (pi (const Nat) (const Nat))))",
		"r: (pi (pi (const Nat) (sort r)) (pi (app #0 (const zero)) (pi (pi (const Nat) (pi (app #2 #0) (app #3 (app (const succ) #1)))) (pi (const Nat) (app #3 #0)))))",
	}})
	tellsAll(t, world(t), 1000, []pair{
		{"(inductive A () 0 (sort (s 0)) (ctor a (pi (pi (const A) (const Nat)) (const A))))", "FPos"},
		{
			"(inductive A () 0 (sort (s 0)) (ctor a (pi (pi (const Nat) (const A)) (const A))))",
			"r: (pi (pi (const A) (sort r)) (pi (pi (pi (const Nat) (const A)) (pi (pi (const Nat) (app #2 (app #1 #0))) (app #2 (app (const a) #1)))) (pi (const A) (app #2 #0))))",
		},
	})
}
