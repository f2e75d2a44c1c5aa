package check

import (
	"testing"

	"provekernel/api"
)

// twoIsTwo needs an equality of eleven steps: nine for the sum, two for two.
var twoIsTwo = app("(const q)", app("(const p)", app("(const add)", "(const one)", "(const one)")))

// A form that is asked for: with the steps that it takes and with more there is an answer, with fewer FTired.
func TestFuelOfForms(t *testing.T) {
	e := world(t)
	for _, c := range []struct {
		text, want string
		steps      int
	}{
		{"(const f)", "(const Unary)", 0},
		{"(sort u)", "(sort (s u))", 0},
		{"(pi (sort u) (lam (const Nat) #0))", "FSort", 0},
		{"(app (const succ) (const zero))", "(const Nat)", 0},
		{"(app (const f) (const zero))", "(const Nat)", 1},
		{"(app (const g) (const zero))", "(const Nat)", 5},
		{"(app (const n) (const zero))", "FFun", 1},
		{"(lam (const A) #0)", "(pi (const A) (const A))", 1},
		{"(lam (const n) #0)", "FSort", 1},
		{"(pi (const A) (sort 0))", "(sort (imax (s 0) (s 0)))", 1},
		{"(pi (sort 0) (const A))", "(sort (imax (s 0) (s 0)))", 1},
		{"(pi (sort 0) (const n))", "FSort", 1},
		{"(let (const A) (const a) (const zero))", "(const Nat)", 1},
		{"(let (const n) (const a) (const zero))", "FSort", 1},
		// Each form has all the fuel.
		{"(pi (const A) (pi (const A) (const A)))", "(sort (imax (s 0) (imax (s 0) (s 0))))", 1},
		{"(app (const g) (app (const g) (app (const f) (const zero))))", "(const Nat)", 5},
		{"(lam (const A) (lam (const A) (app (const g) (const zero))))", "(pi (const A) (pi (const A) (const Nat)))", 5},
		{"(pi (lam (const A) (app (const g) (const zero))) (const Nat))", "FSort", 5},
	} {
		for fuel := -1; fuel <= c.steps+2; fuel++ {
			want := c.want
			if max(fuel, 0) < c.steps {
				want = "FTired"
			}
			if got := (asked{e, nil, fuel}).told(t, parsed(t, c.text)); got != want {
				t.Errorf("Infer(%s) with fuel %d = %s, want %s", c.text, fuel, got, want)
			}
		}
		if got := (asked{e, nil, 100000}).told(t, parsed(t, c.text)); got != c.want {
			t.Errorf("Infer(%s) with much fuel = %s, want %s", c.text, got, c.want)
		}
	}
}

// An equality that is asked for: with the steps that both take and with more there is an answer, with fewer that or FTired.
func TestFuelOfEqualities(t *testing.T) {
	e := world(t)
	for _, c := range []struct {
		text, want string
		steps      int
	}{
		{"(app (const succ) (const n))", "(const Nat)", 1},
		{"(app (const succ) (const a))", "FArg", 0},
		{twoIsTwo, "(const Nat)", 11},
		{app("(const q)", app("(const p)", app("(const add)", "(const one)", "(const two)"))), "FArg", 15},
		{"(let (const Nat) (const n) (const zero))", "(const Nat)", 1},
		{"(let (const N) (const zero) (const zero))", "(const Nat)", 1},
		{"(let (app (const P) (const two)) (app (const p) (app (const succ) (const one))) (const zero))", "(const Nat)", 3},
		{"(let (app (const P) (const two)) (app (const p) (const one)) (const zero))", "FArg", 3},
		// Each equality has all the fuel.
		{app("(const add)", twoIsTwo, twoIsTwo), "(const Nat)", 11},
		{app("(const add)", app("(const add)", "(const n)", twoIsTwo), app("(const add)", "(const n)", "(const n)")), "(const Nat)", 11},
		{"(let (const Nat) " + twoIsTwo + " (let (const Nat) " + twoIsTwo + " (app (app (const add) #0) #1)))", "(const Nat)", 11},
	} {
		for fuel := -1; fuel <= c.steps+2; fuel++ {
			got := (asked{e, nil, fuel}).told(t, parsed(t, c.text))
			if got != c.want && (max(fuel, 0) >= c.steps || got != "FTired") {
				t.Errorf("Infer(%s) with fuel %d = %s, want %s", c.text, fuel, got, c.want)
			}
		}
		if got := (asked{e, nil, 100000}).told(t, parsed(t, c.text)); got != c.want {
			t.Errorf("Infer(%s) with much fuel = %s, want %s", c.text, got, c.want)
		}
	}
	// No other way is known to tell that two terms that are written otherwise are equal.
	if got := (asked{e, nil, 0}).told(t, parsed(t, twoIsTwo)); got != "FTired" {
		t.Errorf("Infer(%s) without fuel = %s", twoIsTwo, got)
	}
}

// FTired is a fault like others: the first that is met is told.
func TestFirstFaultWithoutFuel(t *testing.T) {
	asked{world(t), nil, 0}.tellsAll(t, []pair{
		{"(app (const f) #0)", "FTired"},
		{"(app (app (const f) (const zero)) #0)", "FTired"},
		{"(app #0 (app (const f) (const zero)))", "FVar"},
		{"(app (const succ) (app (const f) #0))", "FTired"},
		{"(lam (const A) (const none))", "FTired"},
		{"(lam (const none) (lam (const A) #0))", "FName"},
		{"(pi (const Nat) (const A))", "FTired"},
		{"(pi (sort w) (const A))", "FParam"},
		{"(let (const A) #0 (const none))", "FTired"},
		{"(let (const N) (const none) #0)", "FTired"},
		{"(let (const Nat) #0 (lam (const A) #0))", "FVar"},
		{"(let (const Nat) (const n) (const none))", "FTired"},
	})
}

func TestFuelOfSort(t *testing.T) {
	e := world(t)
	for _, c := range []struct {
		text, want string
		steps      int
	}{
		{"(const Nat)", "(s 0)", 0},
		{"(const A)", "(s 0)", 1},
		{"(const n)", "FSort", 1},
		{"(const g)", "FSort", 5},
		{"(pi (const A) (const A))", "(imax (s 0) (s 0))", 1},
		{app("(const id (s (s 0)))", "(const Type)", "(const Nat)"), "(s 0)", 1},
	} {
		for fuel := -1; fuel <= c.steps+2; fuel++ {
			want := c.want
			if max(fuel, 0) < c.steps {
				want = "FTired"
			}
			if got := (asked{e, nil, fuel}).toldSort(t, parsed(t, c.text)); got != want {
				t.Errorf("Sort(%s) with fuel %d = %s, want %s", c.text, fuel, got, want)
			}
		}
	}
}

func TestFuelOfDecl(t *testing.T) {
	e := world(t)
	for _, c := range []struct {
		text, want string
		steps      int
	}{
		{"(axiom x () (const Nat))", "no fault", 0},
		{"(axiom x () (const A))", "no fault", 1},
		{"(axiom x () (const n))", "FSort", 1},
		{"(axiom x () (pi (const A) (const A)))", "no fault", 1},
		{"(def x () (const Nat) (const zero))", "no fault", 0},
		{"(def x () (const Nat) (app (const g) (const zero)))", "no fault", 5},
		{"(def x () (const A) #0)", "FVar", 1},
	} {
		for fuel := -1; fuel <= c.steps+2; fuel++ {
			want := c.want
			if max(fuel, 0) < c.steps {
				want = "FTired"
			}
			if got := toldDecl(t, e, c.text, fuel); got != want {
				t.Errorf("Decl(%s) with fuel %d = %s, want %s", c.text, fuel, got, want)
			}
		}
	}
	sum := "(def x () (app (const P) (const two)) " + app("(const p)", app("(const add)", "(const one)", "(const one)")) + ")"
	for fuel := range 14 {
		got := toldDecl(t, e, sum, fuel)
		if got != "no fault" && (fuel >= 11 || got != codeText(api.FTired)) {
			t.Errorf("Decl(%s) with fuel %d = %s", sum, fuel, got)
		}
	}
}
