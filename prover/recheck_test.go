package prover_test

import (
	"math/rand"
	"strconv"
	"strings"
	"testing"

	"provekernel/kernel"
	"provekernel/lib"
	"provekernel/prover"
	"provekernel/small"
)

// Recheck of texts that are right, that are not, and that are none.
func TestRecheck(t *testing.T) {
	for _, c := range []struct {
		text string
		n    int
		want string
	}{
		{"", 0, "right"}, {" \n", 0, "right"}, {startText, 6, "right"}, {"(axiom a () (sort 0)) (axiom b () (const a))", 2, "right"},
		{"(axiom a () (sort 0)) (axiom a () (sort 0))", 1, "FTwice at 1"}, {"(axiom a () (const b))", 0, "FName at 0"}, {startText + "(def x () (const A) (const zero))", 6, "FArg at 6"}, {startText + "(axiom x () (sort u))", 6, "FParam at 6"},
		{startText + "(axiom x () #0)", 6, "FVar at 6"}, {startText + "(axiom x () (const a))", 6, "FSort at 6"}, {startText + "(axiom x () (app (const A) (const A)))", 6, "FFun at 6"}, {startText + "(axiom x () (const id))", 6, "FLevels at 6"},
		{startText + "(inductive x () 0 (sort (s 0)) (ctor y (const A)))", 6, "FForm at 6"}, {startText + "(inductive x () 0 (sort (s 0)) (ctor y (pi (pi (const x) (const A)) (const x))))", 6, "FPos at 6"}, {startText + "(inductive x () 0 (sort (s 0)) (ctor y (pi (sort (s 0)) (const x))))", 6, "FLevel at 6"},
		{"(axiom", 0, "FText at 6"}, {"?", 0, "FText at 0"}, {"axiom a : Prop.", 0, "FText at 0"}, {startText + "(axiom x () #)", 0, "FText at " + strconv.Itoa(len(startText+"(axiom x () "))}, {strings.Repeat(" ", 200001), 0, "FLong at 0"}, {strings.Repeat(" ", 200000), 0, "right"},
	} {
		if n, err := prover.Recheck(c.text, 1000); n != c.n || shown(err) != c.want {
			t.Errorf("%.300s: %d, %s; want %d, %s", c.text, n, shown(err), c.n, c.want)
		}
	}
}

// Recheck of texts of which something is another is what small.Check tells, and, where that does not tire, what the kernel does.
func TestRecheckDrawn(t *testing.T) {
	t.Parallel()
	export := prover.Process(lib.Text()+book, 3000).Text
	said := map[string]int{}
	for seed := range int64(150) {
		r := rand.New(rand.NewSource(seed))
		text := spoiled(r, export)
		fuel := []int{0, 5, 100, 3000, 100000}[r.Intn(5)]
		n, err := prover.Recheck(text, fuel)
		m, again := small.Check(text, fuel)
		if n != m || shown(err) != shown(again) {
			t.Errorf("seed %d: %d, %s; small: %d, %s", seed, n, shown(err), m, shown(again))
		}
		_, k, fault := kernel.File(text, fuel)
		said[codeOf(fault)]++
		if codeOf(fault) != "FTired" && (n != k || shown(err) != shown(fault)) {
			t.Errorf("seed %d: %d, %s; the kernel: %d, %s", seed, n, shown(err), k, shown(fault))
		}
	}
	for _, what := range []string{"right", "FText", "FName", "FArg", "FTired"} {
		if said[what] == 0 {
			t.Errorf("%s was never said: %v", what, said)
		}
	}
}

// spoiled is a text of the core with something else in some places.
func spoiled(r *rand.Rand, text string) string {
	others := []string{"(sort 0)", "(const Nat)", "(const zero)", "#0", "#1", "#2", "(const nothing)", "(sort u)", "(app (const succ) #0)", "(", ")", "0", "(const refl (s 0))", "(lam (const Nat) #0)"}
	for range r.Intn(3) {
		places := []string{"#0", "#1", "(const Nat)", "(sort 0)", "(const zero)", "(const succ)", "(const False)", "Eq", "(s 0)", "#4", "addComm", " "}
		place := places[r.Intn(len(places))]
		at := r.Intn(len(text))
		if found := strings.Index(text[at:], place); found >= 0 {
			text = text[:at+found] + others[r.Intn(len(others))] + text[at+found+len(place):]
		}
	}
	return text
}
