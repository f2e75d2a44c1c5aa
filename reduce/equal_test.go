package reduce

import (
	"reflect"
	"strings"
	"testing"

	"provekernel/api"
	"provekernel/term"
)

// checkEqual: Equal answers that, both ways, with the fuel that both normal forms take, and with more; with less that or FTired.
func checkEqual(t *testing.T, e *Env, a, b string, want bool) {
	t.Helper()
	x, y := parsed(t, a), parsed(t, b)
	_, n, err := e.Normal(x, 10000)
	_, m, err2 := e.Normal(y, 10000)
	if err != nil || err2 != nil {
		t.Fatalf("Normal of %s, %s: %v, %v", a, b, err, err2)
	}
	for _, fuel := range []int{n + m, n + m + 1, 100000} {
		if got, err := e.Equal(x, y, fuel); err != nil || got != want {
			t.Errorf("Equal(%s, %s) with fuel %d = %v, %v", a, b, fuel, got, err)
		}
		if got, err := e.Equal(y, x, fuel); err != nil || got != want {
			t.Errorf("Equal(%s, %s) with fuel %d = %v, %v", b, a, fuel, got, err)
		}
	}
	for fuel := range n + m {
		got, err := e.Equal(x, y, fuel)
		if code, at := api.Code(err); (err != nil || got != want) && (code != api.FTired || at != 0 || got) {
			t.Errorf("Equal(%s, %s) with fuel %d of %d = %v, fault %d at %d", a, b, fuel, n+m, got, code, at)
		}
	}
	if term.Print(x) != a || term.Print(y) != b {
		t.Errorf("Equal changes %s, %s to %s, %s", a, b, term.Print(x), term.Print(y))
	}
}

func TestEqualByReduction(t *testing.T) {
	e := world(t)
	for _, c := range []struct {
		a, b string
		want bool
	}{
		{"#0", "#0", true},
		{"#0", "#1", false},
		{"(const n)", "(const n)", true},
		{"(const n)", "(const zero)", false},
		{"(const n)", "#0", false},
		{"(const one)", num(1), true},
		{"(const one)", num(2), false},
		{"(const one)", "(const n)", false},
		{"(const two)", "(app (const succ) (const one))", true},
		{app("(const add)", "(const one)", "(const one)"), "(const two)", true},
		{app("(const add)", "(const n)", "(const one)"), "(app (const succ) (const n))", true},
		{app("(const add)", "(const one)", "(const n)"), "(app (const succ) (const n))", false},
		{app("(const mul)", num(3), num(4)), app("(const add)", num(7), num(5)), true},
		{"(app (const f) (const one))", "(app (const f) (const two))", false},
		{"(app (const f) (const one))", "(app (const f) " + num(1) + ")", true},
		{"(app (const f) (const n))", "(app #0 (const n))", false},
		{"(let (const Nat) (const one) (app (const f) #0))", "(app (const f) (const one))", true},
		{app("(const id (s 0))", "(const Nat)", "(const n)"), "(const n)", true},
		{"(lam (const Nat) (const one))", "(lam (const Nat) " + num(1) + ")", true},
		{"(lam (const Nat) #0)", "(lam (const Bool) #0)", false},
		{"(pi (const Nat) (const one))", "(pi (const Nat) " + num(1) + ")", true},
		{"(pi (const Nat) #0)", "(pi (const Nat) #1)", false},
		{"(pi (const Nat) #0)", "(lam (const Nat) #0)", false},
		{"(pi (app (lam (sort u) #0) (const Nat)) #0)", "(pi (const Nat) #0)", true},
	} {
		checkEqual(t, e, c.a, c.b, c.want)
	}
}

func TestEqualOfLevels(t *testing.T) {
	e := world(t)
	for _, c := range []struct {
		a, b string
		want bool
	}{
		{"(sort (max u v))", "(sort (max v u))", true},
		{"(sort (imax u (s v)))", "(sort (max u (s v)))", true},
		{"(sort (imax u v))", "(sort (max u v))", false},
		{"(sort (imax u 0))", "(sort 0)", true},
		{"(sort u)", "(sort v)", false},
		{"(sort u)", "(sort (s u))", false},
		{"(pi (const Nat) (sort (max u v)))", "(pi (const Nat) (sort (max v u)))", true},
		{"(const P u (max v 0))", "(const P (max u u) v)", true},
		{"(const P u v)", "(const P v u)", false},
		{"(const P u)", "(const P u v)", false},
		{"(app (const id u) (sort v))", "(app (const id v) (sort (max v v)))", true},
		{"(const id (max u v))", "(const id (max v u))", true},
		{"(const id u)", "(const id v)", false},
		{"(const pair u v)", "(lam (sort (max 0 u)) (app (const pair u (imax v v)) #0))", true},
		{"(lam (sort (imax v u)) (lam (sort (imax u (imax v w))) #1))", "(lam (sort (imax v (max u u))) (lam (sort (imax (max u v) w)) #1))", true},
		{"(sort (imax a (imax b (imax c (imax d (imax e f))))))", "(sort (imax (max e (max d (max c (max b a)))) f))", true},
		{"(sort (imax a (imax b (imax c (imax d (imax e f))))))", "(sort (imax u (imax v (imax w (imax x (imax y z))))))", false},
	} {
		checkEqual(t, e, c.a, c.b, c.want)
	}
}

func TestEqualByEta(t *testing.T) {
	e := world(t)
	eta := func(f string) string { return "(lam (const Nat) (app " + f + " #0))" }
	for _, c := range []struct {
		a, b string
		want bool
	}{
		{eta("(const f)"), "(const f)", true},
		{eta("(const f)"), eta("(const f)"), true},
		{eta("#1"), "#0", true},
		{eta("#1"), "#1", false},
		{eta("#3"), "#2", true},
		{eta("#0"), "#0", false},
		{"(lam (const Nat) (app (const f) (const n)))", "(const f)", false},
		{"(lam (const Nat) (app (const f) #1))", "(const f)", false},
		{"(lam (const Nat) (app (const f) (app (const f) #0)))", "(const f)", false},
		{"(lam (const Nat) #0)", "(const f)", false},
		{eta("(app (const P) #0)"), "(app (const P) #0)", false},
		{eta("(app (const P) #1)"), "(app (const P) #0)", true},
		{eta("(lam (const Nat) (app (const f) #0))"), "(const f)", true},
		{eta(eta("(const f)")), "(const f)", true},
		// Two arguments, given in their order and the other way round; only the last one.
		{"(lam (const Nat) (lam (const Nat) (app (app (const add) #1) #0)))", "(const add)", true},
		{"(lam (const Nat) (lam (const Nat) (app (app (const add) #0) #1)))", "(const add)", false},
		{"(lam (const Nat) (lam (const Nat) (app (app #5 #1) #0)))", "#3", true},
		{"(lam (const Nat) (lam (const Nat) (app (app #5 #1) #0)))", "(lam (const Nat) (app #4 #0))", true},
		{"(lam (const Nat) (lam (const Nat) (app (app #5 #0) #0)))", "(lam (const Nat) (app #4 #0))", false},
		{"(lam (const Nat) (lam (const Nat) (app (app #5 #1) #1)))", "#3", false},
		// Within arguments, under binders, within types; variables that lie further out keep what they mean.
		{"(app (const g) " + eta("(const f)") + ")", "(app (const g) (const f))", true},
		{"(lam (sort u) (lam #0 (app (const g) (lam (const Nat) (app (app #3 #1) #0)))))", "(lam (sort u) (lam #0 (app (const g) (app #2 #0))))", true},
		{"(lam (sort u) (lam #0 (app (const g) (lam (const Nat) (app (app #3 #2) #0)))))", "(lam (sort u) (lam #0 (app (const g) (app #2 #0))))", false},
		{"(pi (app (const g) " + eta("(const f)") + ") #0)", "(pi (app (const g) (const f)) #0)", true},
		{"(pi (const Nat) " + eta("#1") + ")", "(pi (const Nat) #0)", true},
		// What is taken out has binders of its own.
		{"(lam (const Nat) (app (app #1 (lam (const Nat) (app #0 #2))) #0))", "(app #0 (lam (const Nat) (app #0 #1)))", true},
		{"(lam (const Nat) (app (app #1 (lam (const Nat) (app #0 #1))) #0))", "(app #0 (lam (const Nat) (app #0 #1)))", false},
		{"(lam (const Nat) (app (app #1 (lam (const Nat) (app #0 #2))) #0))", "(app #0 (lam (const Nat) (app #0 #2)))", false},
		{"(lam (const Nat) (app (app #1 (lam (const Nat) (app #0 #3))) #0))", "(app #0 (lam (const Nat) (app #0 #2)))", true},
		{"(lam (const Nat) (app (app #1 (lam (const Nat) (lam #0 (app #0 (app #1 #4))))) #0))", "(app #0 (lam (const Nat) (lam #0 (app #0 (app #1 #3)))))", true},
		{"(lam (const Nat) (app (app #1 (pi (const Nat) (pi #0 (app #1 #3)))) #0))", "(app #0 (pi (const Nat) (pi #0 (app #1 #2))))", true},
		// What becomes an eta only by steps, or by another eta within it.
		{"(lam (const Nat) (app (app (lam (const Nat) (const f)) #0) #0))", "(const f)", true},
		{"(lam (const Nat) (app (lam (const Nat) (app (const f) #0)) #0))", "(const f)", true},
		{"(lam (const Nat) (app (const f) (app (lam (const Nat) #0) #0)))", "(const f)", true},
		{"(lam (const Nat) (app (app #1 (lam #0 (app (const f) #0))) #0))", "(app #0 (const f))", true},
		// A pi is no function.
		{"(pi (const Nat) (app (const f) #0))", "(const f)", false},
	} {
		checkEqual(t, e, c.a, c.b, c.want)
	}
}

// With a fault the answer is false; and a form is told only by the fuel that both terms take together.
func TestEqualWithLittleFuel(t *testing.T) {
	e := world(t)
	a, b := parsed(t, app("(const add)", "(const one)", "(const one)")), parsed(t, "(const two)")
	for fuel := range 11 {
		got, err := e.Equal(a, b, fuel)
		if code, _ := api.Code(err); code != api.FTired && !got || code != 0 && got {
			t.Errorf("with fuel %d: %v, fault %d", fuel, got, code)
		}
	}
	if got, err := e.Equal(a, b, 11); !got || err != nil {
		t.Errorf("with just the fuel that is needed: %v, %v", got, err)
	}
	loop := parsed(t, "(app (lam (const Nat) (app #0 #0)) (lam (const Nat) (app #0 #0)))")
	got, err := e.Equal(loop, parsed(t, "(const n)"), 100000)
	if code, at := api.Code(err); code != api.FTired || at != 0 || got {
		t.Errorf("a term without a normal form: %v, fault %d at %d", got, code, at)
	}
}

// What is answered shares nothing with what was handed over, nor with the environment, nor within itself.
func TestFormsAreNewMemory(t *testing.T) {
	const texts = `(app (lam (sort (s u)) (app (app #0 #0) (const P (max u v) (s w)))) (app #3 (pi (const id (s v)) (sort (max u v)))))
(const id (max (s u) v))
(let (sort 0) (const pair (s u) (max u v)) #0)
(app (app #1 (lam (sort (s u)) (const id (s u)))) (sort (s u)))
(const unknown (s u))
(lam (sort (s u)) (app (const id (s u)) (sort (s u))))`
	e := world(t)
	before := told(t, e)
	for _, text := range strings.Split(texts, "\n") {
		for _, reduce := range []reducer{(*Env).Whnf, (*Env).Normal} {
			made := parsed(t, text)
			got, _, err := reduce(e, made, 1000)
			if err != nil {
				t.Fatalf("%s: %v", text, err)
			}
			want := term.Print(got)
			for i := range got.Args {
				parts := term.Lift(got, 0, 0)
				overwrite(got.Args[i])
				got.Args[i] = parts.Args[i]
				if term.Print(got) != want {
					t.Errorf("two parts of the form of %s share a list", text)
				}
			}
			overwrite(got)
			if term.Print(made) != text {
				t.Errorf("the form of %s shares a list with it", text)
			}
			again, _, _ := reduce(e, made, 1000)
			if term.Print(again) != want {
				t.Errorf("the form of %s is another one by what was done to its first one: %s", text, term.Print(again))
			}
		}
	}
	if after := told(t, e); after != before {
		t.Errorf("a form shares a list with the environment: %s", after)
	}
}

// What fields that a kind does not use hold is of no weight.
func TestUnusedFields(t *testing.T) {
	e := world(t)
	odd := api.Term{Kind: api.Lam, N: 7, Name: "n", Args: []api.Term{{Kind: api.Sort, N: 3, Name: "x", Levels: []api.Level{{Name: "u"}}}, {Kind: api.Var, Name: "y"}}}
	plain := parsed(t, "(lam (sort 0) #0)")
	for _, reduce := range []reducer{(*Env).Whnf, (*Env).Normal} {
		if got, _, err := reduce(e, odd, 0); err != nil || !reflect.DeepEqual(got, plain) {
			t.Errorf("the form is %v, %v", got, err)
		}
	}
	if got, err := e.Equal(odd, plain, 0); !got || err != nil {
		t.Errorf("Equal: %v, %v", got, err)
	}
}
