package prover_test

import (
	"errors"
	"slices"
	"strconv"
	"strings"
	"sync"
	"testing"

	"provekernel/api"
	"provekernel/lib"
	"provekernel/prover"
)

// start: a few commands of each kind, and what they become.
const start = `axiom A : Prop. axiom a : A.
inductive Nat : Type | zero : Nat | succ : Nat -> Nat.
def id.{u} {B : Sort u} (b : B) : B := b.
theorem t : A := id a.
theorem s : A -> A by intro h; exact h.
`

const startText = `(axiom A () (sort 0))
(axiom a () (const A))
(inductive Nat () 0 (sort (s 0)) (ctor zero (const Nat)) (ctor succ (pi (const Nat) (const Nat))))
(def id (u) (pi (sort u) (pi #0 #1)) (lam (sort u) (lam #0 #0)))
(def t () (const A) (app (app (const id 0) (const A)) (const a)))
(def s () (pi (const A) (const A)) (lam (const A) #0))
`

// firstLines is the first so many lines of a text.
func firstLines(text string, n int) string {
	return strings.Join(strings.SplitAfter(text, "\n")[:n], "")
}

// is tests that a report tells that so many commands of the start, and then these, were added, and that fault.
func is(t *testing.T, what string, r prover.Report, n int, more []string, fault string) {
	t.Helper()
	want := append(strings.Fields("A a Nat id t s")[:n:n], more...)
	if r.Added != len(want) || strings.Join(r.Names, " ") != strings.Join(want, " ") {
		t.Errorf("%s: %d added, %v; want %v", what, r.Added, r.Names, want)
	}
	if got := firstLines(r.Text+"\n\n\n\n\n\n", n); got != firstLines(startText, n) || strings.Count(r.Text, "\n") != len(want) {
		t.Errorf("%s: what is exported is\n%s", what, r.Text)
	}
	if shown(r.Err) != fault {
		t.Errorf("%s: %s, want %s", what, shown(r.Err), fault)
	}
}

// Texts all of whose commands are added: their names, in their order, and what they become.
func TestAllAdded(t *testing.T) {
	r := prover.Process(start, 100)
	is(t, "the start", r, 6, nil, "right")
	if r.Text != startText {
		t.Errorf("the start becomes\n%s", r.Text)
	}
	for text, want := range map[string]string{
		"axiom x : A.":                                              "(axiom x () $A)",
		"axiom x (n m : Nat) : A.":                                  "(axiom x () (pi $N (pi $N $A)))",
		"def x : Nat := succ (id zero).":                            "(def x () $N (app (const succ) (app (app (const id (s 0)) $N) (const zero))))",
		"def x (n : Nat) : Nat := succ n.":                          "(def x () (pi $N $N) (lam $N (app (const succ) #0)))",
		"theorem x : A := a.":                                       "(def x () $A (const a))",
		"theorem x (h : A) : A by exact h.":                         "(def x () (pi $A $A) (lam $A #0))",
		"theorem x : A -> A by intro y; apply id; assumption.":      "(def x () (pi $A $A) (lam $A (app (app (const id 0) $A) #0)))",
		"inductive x : Prop.":                                       "(inductive x () 0 (sort 0))",
		"inductive x (n : Nat) : Type | y : x n | z : x n -> x n.":  "(inductive x () 1 (pi $N (sort (s 0))) (ctor y (pi $N (app (const x) #0))) (ctor z (pi $N (pi (app (const x) #0) (app (const x) #1)))))",
		"inductive x.{u} (B : Sort u) : Sort (u+1) | y : B -> x B.": "(inductive x (u) 1 (pi (sort u) (sort (s u))) (ctor y (pi (sort u) (pi #0 (app (const x u) #1)))))",
	} {
		r := prover.Process(start+text, 1000)
		is(t, text, r, 6, []string{"x"}, "right")
		want = strings.NewReplacer("$N", "(const Nat)", "$A", "(const A)").Replace(want)
		if got := strings.TrimPrefix(r.Text, startText); got != want+"\n" {
			t.Errorf("%s becomes %s, want %s", text, got, want)
		}
		tells(t, start+text, r)
		holds(t, text, r, 1000, 0)
	}
}

// The document's examples of the language and of tactics.
func TestExamples(t *testing.T) {
	text := "inductive Eq.{u} {A : Sort u} (a : A) : A -> Prop | refl : Eq a a. inductive Nat : Type | zero : Nat | succ : Nat -> Nat. def add (m n : Nat) : Nat := Nat.rec (fun x => Nat) m (fun k r => succ r) n. " +
		"theorem cong {A B : Type} (f : A -> B) {a b : A} : a = b -> f a = f b by intro h; rewrite h; refl. theorem zeroAdd : forall (n : Nat), add zero n = n by intro n; induction n; refl; exact cong succ ih."
	r := prover.Process(text, 3000)
	if r.Err != nil || r.Added != 5 || strings.Join(r.Names, " ") != "Eq Nat add cong zeroAdd" {
		t.Errorf("%d added, %v, %s", r.Added, r.Names, shown(r.Err))
	}
	tells(t, text, r)
	holds(t, text, r, 3000, 0)
	want := "(def f () (app (const List 0) (const Nat)) (app (app (app (const cons 0) (const Nat)) (const zero)) (app (const nil 0) (const Nat))))\n"
	if r := prover.Process(lib.Text()+"def f : List Nat := cons zero nil.", 3000); r.Err != nil || !strings.HasSuffix(r.Text, "\n"+want) {
		t.Errorf("%s: %s", r.Text, shown(r.Err))
	}
}

// Texts of which a command cannot be added: those ahead of it are, those behind it are not, whatever they are.
func TestNotAllAdded(t *testing.T) {
	commands := []string{"axiom A : Prop.\n", "axiom a : A.\n", "inductive Nat : Type | zero : Nat | succ : Nat -> Nat. ", "def id.{u} {B : Sort u} (b : B) : B := b. ", "theorem t : A := id a. ", "theorem s : A -> A by intro h; exact h. "}
	for _, c := range []struct {
		needs      int // how many of the commands it speaks of
		text, code string
		at         int
	}{
		{0, "axiom x : y.", "FName", 10}, {0, "axiom x : Sort u.", "FParam", 0}, {0, "axiom x.{v, v} : Prop.", "FParam", 0}, {0, "def x : Type := Type.", "FArg", 0}, {0, "axiom x : Prop Prop.", "FFun", 0}, {0, "inductive x : Type | y : x | y : x.", "FTwice", 0},
		{0, "inductive x : Type | y : (x -> Prop) -> x.", "FPos", 0}, {0, "inductive x : Type | y : Prop.", "FForm", 0}, {0, "inductive x : Type | y : Type -> x.", "FLevel", 0}, {0, "theorem x : Prop -> Prop by intro h.", "FTactic", 0}, {0, "theorem x : Prop by assumption.", "FTactic", 20},
		{0, "def x : Type := x.", "FName", 16}, {0, "inductive x : Sort v.", "FParam", 0}, {0, "inductive x.{v} : Sort v.", "FForm", 0}, {0, "theorem x : Type by exact y.", "FName", 26}, {0, "theorem x : Type by rewrite x.", "FName", 28},
		{1, "axiom A : Prop.", "FTwice", 0}, {1, "axiom x : A A.", "FFun", 0}, {1, "axiom x : A.{0}.", "FLevels", 0}, {1, "def x : A := A.", "FArg", 0}, {1, "def x : A := (_ : A).", "FStuck", 14}, {1, "axiom x (A : A) : A.{0}.", "FName", 18}, {1, "theorem x : A by intro h.", "FTactic", 17},
		{2, "axiom x : a.", "FSort", 0}, {2, "axiom a : A.", "FTwice", 0}, {3, "axiom succ : A.", "FTwice", 0}, {3, "axiom Nat.rec : A.", "FTwice", 0}, {3, "def x : Nat := succ a.", "FArg", 0}, {4, "def x : Nat := @id.{1} A a.", "FArg", 0}, {4, "def x : Nat := @id.{1, 1} Nat zero.", "FLevels", 0},
	} {
		for n := c.needs; n <= len(commands); n++ {
			ahead := strings.Join(commands[:n], "")
			for _, behind := range []string{"", " axiom z : Prop.", " axiom z : nothing."} {
				is(t, ahead+c.text+behind, prover.Process(ahead+c.text+behind, 1000), n, nil, c.code+" at "+strconv.Itoa(len(ahead)+c.at))
			}
			reportless(t, ahead+c.text+" nothing.", "FText at "+strconv.Itoa(len(ahead+c.text)+1))
		}
	}
}

// reportless tests that a report tells nothing but a fault.
func reportless(t *testing.T, text string, fault string) {
	t.Helper()
	for _, fuel := range []int{0, 1000} {
		r := prover.Process(text, fuel)
		if r.Added != 0 || r.Names != nil || r.Text != "" || shown(r.Err) != fault {
			t.Errorf("%.100q: %d added, %v, %q, %s; want %s", text, r.Added, r.Names, r.Text, shown(r.Err), fault)
		}
	}
}

// Texts without commands.
func TestNoCommands(t *testing.T) {
	for _, text := range []string{"", " ", "\n\n\t", "-- nothing", "-- nothing\n", "--", strings.Repeat(" ", 200000)} {
		reportless(t, text, "right")
	}
}

// Texts that are too long, and such that are just short enough.
func TestLongTexts(t *testing.T) {
	pad := strings.Repeat(" ", 200000-len(start))
	reportless(t, start+pad+" ", "FLong at 0")
	reportless(t, strings.Repeat(" ", 200001), "FLong at 0")
	reportless(t, strings.Repeat("?", 200001), "FLong at 0")
	reportless(t, strings.Repeat(start, 2000), "FLong at 0")
	r := prover.Process(start+pad, 1000)
	is(t, "the start, as long as it can be", r, 6, nil, "right")
	r = prover.Process(pad+start, 1000)
	is(t, "the start behind blanks", r, 6, nil, "right")
}

// Texts that are none: nothing is added, whatever stands ahead.
func TestNoTexts(t *testing.T) {
	for _, c := range []struct {
		text string
		at   int
	}{
		{"?", 0}, {"axiom", 5}, {"axiom x", 7}, {"axiom x : .", 10}, {"axiom x : Prop", 14}, {"axiom x : Prop. ?", 16}, {"axiom x : Prop. axiom", 21}, {"lemma x : Prop.", 0}, {"axiom fun : Prop.", 6}, {"def x : Prop.", 12}, {"theorem x : Prop by.", 19}, {"theorem x : Prop by intro.", 25},
		{"theorem x : Prop by nothing.", 20}, {"axiom x : Sort 100.", 15}, {"axiom x : (Prop.", 15}, {"axiom x : \xff.", 10}, {"axiom x : Prop.axiom y : Prop.", 23}, {"axiom x : Prop;", 14}, {"(axiom A () (sort 0))", 0},
	} {
		reportless(t, c.text, "FText at "+strconv.Itoa(c.at))
		reportless(t, start+c.text, "FText at "+strconv.Itoa(len(start)+c.at))
		reportless(t, lib.Text()+c.text, "FText at "+strconv.Itoa(len(lib.Text())+c.at))
	}
}

// Fuel: what takes no step is added without any; what takes some with enough, and not with less: FTired at the command.
func TestFuel(t *testing.T) {
	is(t, "the start without fuel", prover.Process(start, 0), 6, nil, "right")
	is(t, "the start with less than none", prover.Process(start, -5), 6, nil, "right")
	add := "def add (m n : Nat) : Nat := Nat.rec (fun x => Nat) m (fun k r => succ r) n. "
	eq := "inductive Eq.{v} {B : Sort v} (b : B) : B -> Prop | refl : Eq b b. "
	for _, last := range []string{
		"theorem x : add (succ (succ zero)) (succ (succ zero)) = succ (succ (succ (succ zero))) := refl.", "theorem x : add (succ zero) (succ (succ zero)) = succ (succ (succ zero)) by refl.",
		"theorem x : @Eq.{1} Nat (@add (@succ @zero) (@succ @zero)) (@succ (@succ @zero)) := @refl.{1} Nat (@succ (@succ @zero)).", "axiom x (y : id Prop) : id (id (id y)).", "theorem x : add zero zero = zero by simpl; refl.",
	} {
		text := start + add + eq + last
		enough := -1
		for fuel := range 200 {
			r := prover.Process(text, fuel)
			switch {
			case r.Err == nil && enough < 0:
				enough = fuel
			case r.Err == nil:
			case enough >= 0, codeOf(r.Err) != "FTired", r.Added != 6 && r.Added != 8:
				t.Errorf("%s with %d steps: %d added, %s", last, fuel, r.Added, shown(r.Err))
			}
		}
		if enough <= 0 {
			t.Errorf("%s is added from %d steps on", last, enough)
		}
		if r := prover.Process(text, 100000); r.Err != nil || r.Added != 9 {
			t.Errorf("%s with much fuel: %s", last, shown(r.Err))
		}
		r := prover.Process(text, enough-1)
		is(t, last, prover.Process(text, enough), 6, []string{"add", "Eq", "x"}, "right")
		if r.Added == 8 {
			is(t, last, r, 6, []string{"add", "Eq"}, "FTired at "+strconv.Itoa(len(text)-len(last)))
		}
	}
}

// With each fuel from none on, as much of the library and of the book is added as there are steps for, never less with more; the
// kernel and the small checker find it right with that fuel.
func TestLittleFuel(t *testing.T) {
	t.Parallel()
	text := lib.Text() + book
	cs := parsed(t, text)
	added := 0
	for fuel := 0; added < len(cs); fuel += 1 + fuel/20 {
		if fuel > 3000 {
			t.Fatalf("with %d steps only %d of %d are added", fuel, added, len(cs))
		}
		r := prover.Process(text, fuel)
		if r.Added < added || r.Added < len(cs) && shown(r.Err) != "FTired at "+strconv.Itoa(cs[r.Added].At) {
			t.Errorf("with %d steps %d of %d are added, %s", fuel, r.Added, len(cs), shown(r.Err))
		}
		holds(t, "the book", r, fuel, max(r.Added-1, 0))
		added = r.Added
	}
}

// What does not end in a normal form within any fuel.
func TestTired(t *testing.T) {
	text := lib.Text() + "def double (n : Nat) : Nat := add n n. theorem t : " + strings.Repeat("double (", 18) + "succ zero" + strings.Repeat(")", 18) + " = zero by "
	for _, tactic := range []string{"refl", "simpl", "exact refl", "rewrite addZero", "constructor 1"} {
		r := prover.Process(text+tactic+".", 100000)
		if codeOf(r.Err) != "FTired" && codeOf(r.Err) != "FTactic" || r.Names[len(r.Names)-1] != "double" {
			t.Errorf("%s: %d added, %s", tactic, r.Added, shown(r.Err))
		}
	}
}

// Two calls with the same text answer the same, and calls do not see one another: not even at the same time.
func TestCallsAlone(t *testing.T) {
	texts := []string{start, lib.Text(), "axiom A : Prop. axiom A : Prop.", "axiom a : A.", lib.Text() + book, start + "axiom", "theorem t : A := a.", ""}
	want := make([]prover.Report, len(texts))
	for i, text := range texts {
		want[i] = prover.Process(text, 3000)
	}
	var wait sync.WaitGroup
	for round := range 3 {
		for i, text := range texts {
			wait.Go(func() {
				r := prover.Process(text, 3000)
				if shown(r.Err) != shown(want[i].Err) {
					t.Errorf("text %d, round %d: %s", i, round, shown(r.Err))
				}
				if r.Added != want[i].Added || !slices.Equal(r.Names, want[i].Names) || r.Text != want[i].Text {
					t.Errorf("text %d, round %d: another report", i, round)
				}
			})
		}
	}
	wait.Wait()
	r := prover.Process(start, 100)
	r.Names[0] = "something else"
	is(t, "once more", prover.Process(start, 100), 6, nil, "right")
}

// A fault is an *api.Fault; where there is none the error is nil.
func TestFaults(t *testing.T) {
	for _, text := range []string{"axiom", "axiom a : b.", strings.Repeat(" ", 200001), "theorem t : Prop by refl."} {
		var fault *api.Fault
		if r := prover.Process(text, 10); !errors.As(r.Err, &fault) || fault == nil {
			t.Errorf("%.20s: %v", text, r.Err)
		}
	}
	if r := prover.Process(start, 10); r.Err != nil {
		t.Errorf("the start: %v", r.Err)
	}
	if _, err := prover.Recheck(startText, 10); err != nil {
		t.Errorf("the start's export: %v", err)
	}
}
