package small

import (
	"errors"
	"strconv"
	"strings"
	"testing"

	"provekernel/api"
)

const (
	nat = "(inductive Nat () 0 (sort (s 0)) (ctor zero (const Nat)) (ctor succ (pi (const Nat) (const Nat))))\n"
	add = "(def add () (pi (const Nat) (pi (const Nat) (const Nat))) (lam (const Nat) (lam (const Nat) (app (app (app (app (const Nat.rec (s 0)) (lam (const Nat) (const Nat))) #1) (lam (const Nat) (lam (const Nat) (app (const succ) #0)))) #0))))\n"
	one = "(def one () (const Nat) (app (const succ) (const zero)))\n"
	eq  = "(inductive Eq (u) 2 (pi (sort u) (pi #0 (pi #1 (sort 0)))) (ctor refl (pi (sort u) (pi #0 (app (app (app (const Eq u) #1) #0) #0)))))\n"
	// all of them, and more.
	worldText = nat + add + one + eq + `(def id (u) (pi (sort u) (pi #0 #1)) (lam (sort u) (lam #0 #0)))
(inductive Ord () 0 (sort (s 0)) (ctor base (const Ord)) (ctor lim (pi (pi (const Nat) (const Ord)) (const Ord))))
(axiom f () (pi (const Nat) (const Nat)))
`
	size = 7
)

// checked: a text, how many declarations are right, the fault's code and place.
type checked struct {
	text        string
	n, code, at int
}

func checks(t *testing.T, fuel int, cases []checked) {
	t.Helper()
	for _, c := range cases {
		n, err := Check(c.text, fuel)
		var fault *api.Fault
		if err != nil && !errors.As(err, &fault) {
			t.Errorf("Check(%.200s): an error that is no fault", c.text)
		}
		if code, at := api.Code(err); n != c.n || code != c.code || at != c.at {
			t.Errorf("Check(%.400s), fuel %d: %d, fault %d at %d; want %d, %d at %d", strings.TrimPrefix(c.text, worldText), fuel, n, code, at, c.n, c.code, c.at)
		}
	}
}

// equal is the text of a definition that is right just if two things of a type in (sort (s 0)) are equal.
func equal(typ, a, b string) string {
	return "(def e () (app (app (app (const Eq (s 0)) " + typ + ") " + a + ") " + b + ") (app (app (const refl (s 0)) " + typ + ") " + a + "))"
}

func TestCheck(t *testing.T) {
	checks(t, 1000, []checked{
		{"", 0, 0, 0}, {" \n", 0, 0, 0}, {nat, 1, 0, 0}, {worldText, size, 0, 0},
		{"(axiom a () #0)" + worldText, 0, api.FVar, 0}, {nat + add + "(axiom a () (const zero))" + one, 2, api.FSort, 2}, {worldText + "(def a () (const Nat) (const f))", size, api.FArg, size}, {worldText + nat, size, api.FTwice, size},
		{worldText + ")", 0, api.FText, len(worldText)}, {"(axiom a () (const none))(", 0, api.FText, 26}, {strings.Repeat(" ", 200001), 0, api.FLong, 0}, {strings.Repeat(" ", 200000), 0, 0, 0},
		{"(axiom a () (sort 0)) (axiom a () (sort (s 0)))", 1, api.FTwice, 1},
		{nat + "(def f () (const Nat) (app (const succ) (const succ)))", 1, api.FArg, 1},
		{nat + "(inductive A () 0 (sort (s 0)) (ctor a (pi (pi (const A) (const Nat)) (const A))))", 1, api.FPos, 1},
	})
}

func TestEquality(t *testing.T) {
	for _, c := range []struct {
		typ, a, b string
		want      bool
	}{
		{"(const Nat)", "(app (app (const add) (const one)) (const one))", "(app (const succ) (const one))", true},
		{"(const Nat)", "(app (app (const add) (const one)) (const one))", "(const one)", false},
		{"(const Nat)", "(app (const f) (const one))", "(app (const f) (app (const succ) (const zero)))", true},
		{"(const Nat)", "(app (const f) (const one))", "(app (const f) (const zero))", false},
		{"(pi (const Nat) (const Nat))", "(lam (const Nat) (app (const f) #0))", "(const f)", true},
		{"(pi (const Nat) (const Nat))", "(const f)", "(lam (const Nat) (app (const f) #0))", true},
		{"(pi (const Nat) (const Nat))", "(lam (const Nat) (app (const f) (const zero)))", "(const f)", false},
		{"(pi (const Nat) (const Nat))", "(lam (const Nat) #0)", "(app (const id (s 0)) (const Nat))", true},
		{"(pi (const Nat) (const Nat))", "(app (const add) (const one))", "(lam (const Nat) (app (app (const add) (const one)) #0))", true},
		{"(const Nat)", "(let (const Nat) (const one) (app (app (const add) #0) #0))", "(app (const succ) (const one))", true},
		{"(const Ord)", "(app (const lim) (lam (const Nat) (const base)))", "(app (const lim) (lam (const Nat) (app (app (const id (s 0)) (const Ord)) (const base))))", true},
		{"(const Ord)", "(app (const lim) (lam (const Nat) (const base)))", "(const base)", false},
	} {
		want := checked{worldText + equal(c.typ, c.a, c.b), size + 1, 0, 0}
		if !c.want {
			want = checked{worldText + equal(c.typ, c.a, c.b), size, api.FArg, size}
		}
		checks(t, 1000, []checked{want})
	}
}

// A recursor with hypotheses that are functions: how high an ordinal is at a number.
func TestHypotheses(t *testing.T) {
	height := "(def high () (pi (const Ord) (pi (const Nat) (const Nat))) (app (app (app (const Ord.rec (s 0)) (lam (const Ord) (pi (const Nat) (const Nat)))) (lam (const Nat) (const zero))) (lam (pi (const Nat) (const Ord)) (lam (pi (const Nat) (pi (const Nat) (const Nat))) (lam (const Nat) (app (const succ) (app (app #1 #0) #0)))))))"
	two := "(app (const lim) (lam (const Nat) (app (const lim) (lam (const Nat) (const base)))))"
	at := func(n string) string { return "(app (app (const high) " + two + ") " + n + ")" }
	checks(t, 1000, []checked{
		{worldText + height + equal("(const Nat)", at("(const one)"), "(app (const succ) (const one))"), size + 2, 0, 0},
		{worldText + height + equal("(const Nat)", at("(app (const f) (const zero))"), "(app (const succ) (const one))"), size + 2, 0, 0},
		{worldText + height + equal("(const Nat)", at("(const one)"), "(const one)"), size + 1, api.FArg, size + 1},
	})
}

// With too little fuel FTired, At the declaration; and the same without an end in sight.
func TestFuel(t *testing.T) {
	number := strings.Repeat("(app (const succ) ", 2000) + "(const zero)" + strings.Repeat(")", 2000)
	slow := worldText + "(def Type () (sort (s (s 0))) (sort (s 0)))(def slow () (pi (const Nat) (const Type)) (app (app (app (const Nat.rec (s (s 0))) (lam (const Nat) (const Type))) (sort 0)) (lam (const Nat) (lam (const Type) #0))))(axiom h () (pi (const Nat) (app (const slow) #0)))"
	checks(t, 100, []checked{{slow + "(axiom x () (app (const h) " + number + "))", size + 3, api.FTired, size + 3}})
	checks(t, 100000, []checked{{slow + "(axiom x () (app (const h) " + number + "))", size + 4, 0, 0}})
	doubles := worldText + "(def d0 () (const Nat) (const one))"
	for i := range 60 {
		n := strconv.Itoa(i)
		doubles += "(def d" + strconv.Itoa(i+1) + " () (const Nat) (app (app (const add) (const d" + n + ")) (const d" + n + ")))"
	}
	checks(t, 100000, []checked{{doubles + equal("(const Nat)", "(const d60)", "(app (const succ) (const d59))"), size + 61, api.FTired, size + 61}})
	checks(t, 0, []checked{{doubles + equal("(const Nat)", "(const d60)", "(const d60)"), size + 62, 0, 0}})
}
