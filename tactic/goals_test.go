package tactic_test

import (
	"strconv"
	"strings"
	"testing"

	"provekernel/api"
	"provekernel/kernel"
)

// Goals that a tactic leaves stand in the place of the one that it worked on, in their order; each tactic works on the first one.
func TestGoals(t *testing.T) {
	more := `axiom A : Prop. axiom B : Prop. axiom C : Prop. axiom D : Prop. axiom E : Prop. axiom a0 : A. axiom b0 : B. axiom c0 : C. axiom d0 : D. axiom e0 : E.
		axiom ab : A -> B -> E. axiom cd : C -> D -> A. axiom cb : C -> B. `
	more = strings.Join(strings.Fields(more), " ") + " "
	all(`
		theorem t : E by apply ab; exact a0; exact b0.
		theorem t : E by apply ab; apply cd; exact c0; exact d0; exact b0.
		theorem t : E by apply ab; apply cd; exact c0; exact d0; apply cb; exact c0.
		theorem t : E by have x : A; apply cd; exact c0; exact d0; apply ab; exact x; exact b0.
		theorem t : E by have x : A; have y : C; exact c0; apply cd; exact y; exact d0; have y : B; exact b0; exact ab x y.
		theorem t : And A (And B C) by constructor 1; exact a0; constructor 1; exact b0; exact c0.
		theorem t : And (And A B) C by constructor 1; constructor 1; exact a0; exact b0; exact c0.
		theorem t (n : Nat) : And A B by cases n; constructor 1; exact a0; exact b0; constructor 1; exact a0; exact b0.
		theorem t (n m : Nat) (h : Q zero zero) (i : forall (x : Nat), Q zero (succ x)) (j : forall (x : Nat), Q (succ x) zero) (k : forall (x y : Nat), Q (succ x) (succ y)) : Q n m by cases n; cases m; exact h; exact i a; cases m; exact j a; exact k a a'.
		theorem t (n m : Nat) (h : Q zero zero) (i : forall (x : Nat), Q zero (succ x)) (j : forall (x : Nat), Q (succ x) zero) (k : forall (x y : Nat), Q (succ x) (succ y)) : Q n m by cases m; cases n; exact h; exact j a; cases n; exact i a; exact k a' a.
	`, func(line string) { proves(t, more+line) })
	all(`
		theorem t : E by apply ab; ||exact b0; exact a0.
		theorem t : E by apply ab; apply cd; exact c0; ||exact b0; exact d0.
		theorem t : E by apply ab; exact a0; ||exact c0.
		theorem t : E by apply ab; apply cd; exact c0; exact d0; exact b0; ||exact e0.
		theorem t : And A (And B C) by constructor 1; exact a0; ||exact b0; exact c0.
		theorem t : E by have x : A; ||exact e0; exact a0.
		theorem t (n : Nat) : Nat -> n = n by cases n; intro x; refl; ||refl.
		||theorem t : E by apply ab; exact a0.
		||theorem t : E by apply ab; apply cd; exact c0; exact d0.
		||theorem t : E by have x : A; exact a0.
		||theorem t : A -> A by intro h.
		||theorem t : A -> A by simpl.
	`, func(line string) { fails(t, more+line, "FTactic") })
}

// The binders of a theorem are in the context of its first goal, implicit ones too; the innermost one of a name is meant.
func TestBinders(t *testing.T) {
	allProve(t, `
		theorem t (A : Prop) (a : A) : A by exact a.
		theorem t {A : Prop} {a : A} : A by exact a.
		theorem t (n : Nat) (n : P n) : P _ by exact n.
		theorem t (a : Prop) (a : a) : _ by exact a.
		theorem t (zero : Prop) (h : zero) : zero by exact h.
		theorem t (Eq : Prop) (refl : Eq) : one = one by refl.
		theorem t (Eq : Prop) (h : Eq) (n m : Nat) (k : n = m) : m = n by symm; rewrite k; refl.
		theorem t (n m : Nat) (h : n = m) (k : P m) : P n by rewrite h; assumption.
	`)
	isValue(t, "theorem t (a b : Nat) : Nat -> Nat by intro c; exact a.", "#2")
	isValue(t, "theorem t (a b : Nat) : Nat -> Nat by intro c; exact b.", "#1")
	isValue(t, "theorem t (a b : Nat) : Nat -> Nat by intro a; exact a.", "#0")
	fails(t, "theorem t (n : Nat) (n : Prop) : Nat by ||exact n.", "FTactic")
	fails(t, "theorem t : Nat -> Nat by exact ||n; intro n.", "FName")
}

// Levels: those of the theorem, given ones, such as are found.
func TestLevels(t *testing.T) {
	allProve(t, `
		theorem t.{u} (A : Sort u) (a : A) : a = a by refl.
		theorem t.{u} (A : Sort u) (a : A) : @Eq.{u} A a a by exact @refl.{u} A a.
		theorem t.{u} (A : Sort u) : Sort u by exact A.
		theorem t.{u, v} (A : Sort u) (B : Sort v) : Sort (imax u v) by exact A -> B.
		theorem t.{u, v} (A : Sort u) (B : Sort v) (f : A -> B) (a b : A) (h : a = b) : f a = f b by rewrite h; refl.
		theorem t.{u, v} (A : Sort u) (B : A -> Sort v) (a b : A) (h : a = b) : B a -> B b by cases h; intro x; exact x.
		theorem t.{u} (A : Sort u) (n : Nat) (f : A -> A) : A -> A by induction n; intro a; exact a; intro a; exact f (ih a).
		theorem t.{u} (A : Sort (u+1)) (l : List A) : List.{u} (Sort u) -> List A by intro k; exact l.
		theorem t.{u} (A : Sort (u+1)) (l : List A) (B : List A -> Sort u) (n : B nil) (c : forall (a : A) (l : List A), B l -> B (cons a l)) : B l by induction l; exact n; exact c a b ih.
		theorem t.{u} : Sort (u+2) by exact Sort (u+1).
		theorem t.{u} (A B : Sort u) (h : A = B) : A -> B by rewrite h; intro b; exact b.
		theorem t.{u} (A B : Sort u) (h : A = B) : B = A by symm; exact h.
		theorem t.{w} (A : Type 3) (R : A -> A -> Prop) (S : A -> Sort w) (s : forall (x : A), (forall (y : A), R y x -> S y) -> S x) (x : A) (h : Acc R x) : S x by induction h; apply s; exact ih.
		theorem t.{u} : forall (A : Sort u), A -> Exists (fun (x : A) => True) by intro A a; exists a; constructor 1.
	`)
	allFail(t, `
		theorem t.{u} : Sort (u+2) by ||exact Sort u.
		theorem t.{u, v} (A : Sort u) : Sort v by ||exact A.
		theorem t.{u} (A : Sort u) (a : A) : @Eq.{u} A a a by ||exact @refl.{u+1} A a.
		theorem t.{u, v} (A : Sort u) (B : Sort v) (h : Exists (fun (x : A) => True)) : A by ||cases h; exact a.
		theorem t : Type by ||exact Type.
		theorem t : Type by ||exact Sort v.
	`)
	for text, want := range map[string]string{
		"theorem t.{u, u} : Nat by exact zero.":                "FParam at 0",
		"theorem t.{a, b, c, d, e, f, g} : Nat by exact zero.": "FParam at 0",
		"theorem t (A : Sort u) : Nat by exact zero.":          "FParam at 0",
		"theorem t.{u} : @Nat.{u} by exact zero.":              "FLevels at 0",
	} {
		if _, _, got := ran(t, text, 3000); got != want {
			t.Errorf("%s: %s, want %s", text, got, want)
		}
	}
}

// What the kernel says of a theorem's type goes ahead of its proof, and stands at the command.
func TestTypes(t *testing.T) {
	for text, want := range map[string]string{
		"theorem t : zero by refl.":                      "FSort at 0",
		"theorem t : zero by exact nothing.":             "FSort at 0",
		"theorem t : zero zero by refl.":                 "FFun",
		"theorem t : P Nat by refl.":                     "FArg",
		"theorem t (n : zero) : Nat by refl.":            "FSort",
		"theorem t : nothing by refl.":                   "FName at 12",
		"theorem one : Nat by intro x.":                  "FTwice at 0",
		"theorem Nat.rec : Nat by intro x.":              "FTwice at 0",
		"axiom x : Prop. theorem x : Nat by exact zero.": "FTwice at 16",
	} {
		if _, _, got := ran(t, text, 3000); !strings.HasPrefix(got, want) {
			t.Errorf("%s: %s, want %s", text, got, want)
		}
	}
}

// A command with a fault leaves the state as it was, and the next one runs.
func TestState(t *testing.T) {
	s := worldState(t)
	before := kernel.Export(s.Env())
	wrong := []string{
		"theorem t : zero = one by refl.", "theorem t : Nat by have x : Nat; exact zero.", "theorem t : Nat by exact nothing.", "theorem t : Nat by cases n.",
		"theorem t : _ by intro x; exact x.", "theorem t (n : Nat) : add zero n = n by induction n; refl; refl.", "theorem t : zero by refl.",
	}
	for i, text := range wrong {
		for _, fuel := range []int{0, 3000} {
			if err := s.Run(parsed(t, text)[0], fuel); err == nil {
				t.Errorf("%s is added", text)
			}
			if kernel.Export(s.Env()) != before {
				t.Errorf("%s leaves a trace", text)
			}
		}
		next := "theorem next" + strconv.Itoa(i) + " : Nat -> Nat by intro x; exact x."
		if err := s.Run(parsed(t, next)[0], 0); err != nil {
			t.Errorf("behind %s: %s", text, shown(err))
		}
		before = kernel.Export(s.Env())
	}
	for _, text := range []string{"theorem t (n : Nat) : Nat by cases n; exact zero; exact a.", "theorem s : t one = zero by refl.", "theorem r : t (succ one) = one by simpl; refl."} {
		if err := s.Run(parsed(t, text)[0], 3000); err != nil {
			t.Errorf("%s: %s", text, shown(err))
		}
		if err := s.Run(parsed(t, text)[0], 3000); codeOf(err) != "FTwice" {
			t.Errorf("%s once more: %s", text, shown(err))
		}
	}
	isRight(t, "all of them", s)
}

// A theorem by tactics is a definition, with implicit arguments as others have them.
func TestTheorem(t *testing.T) {
	allProve(t, `
		theorem two : Nat by exact succ one. theorem t : two = succ one by refl.
		theorem self {A : Type} (a : A) : A by exact a. def t : Nat := self zero.
		theorem self : forall {A : Type}, A -> A by intro A a; exact a. def t : Nat := self zero.
		theorem self : forall {A : Type}, A -> A by exact fun A a => a. theorem t : self one = one by refl.
		theorem less (n : Nat) : Nat by cases n; exact zero; exact a. theorem t (n : Nat) : less (succ n) = n by refl.
	`)
	s, _, _ := ran(t, "theorem t (n : Nat) : Nat by exact n.", 100)
	ds := s.Env().Decls()
	if last := ds[len(ds)-1]; last.Kind != api.Def || last.Name != "t" {
		t.Errorf("it becomes %v", last)
	}
}
