package tactic_test

import "testing"

// refl: the sides are equal, by steps and eta too; what of it is to be found is found.
func TestRefl(t *testing.T) {
	allProve(t, `
		theorem t : zero = zero by refl.
		theorem t : add one one = succ (succ zero) by refl.
		theorem t (n : Nat) : add n one = succ n by refl.
		theorem t (f : Nat -> Nat) : (fun x => f x) = f by refl.
		theorem t.{u} (A : Sort u) (a : A) : id a = a by refl.
		theorem t (n : Nat) : Equal n n by refl.
		theorem t (n : Nat) : (fun (x : Nat) => x = n) n by refl.
		theorem t : Nat = Number by refl.
		theorem t : (Nat -> Nat) = (Nat -> Number) by refl.
		theorem t (A : Prop) : Not A = (A -> False) by refl.
		theorem t (a c : Nat) (k : a = c) : a = c by apply trans; refl; exact k.
		theorem t (a c : Nat) (k : a = c) : a = c by apply trans; exact k; refl.
		theorem t : Exists (fun n => add n one = succ one) by apply (intro _); refl.
		theorem t : let n : Nat := zero in n = zero by refl.
		axiom f {n m : Nat} (h : succ n = m) : P m. theorem t : P one by apply f; refl.
	`)
	allFail(t, `
		theorem t (n : Nat) : n = zero by ||refl.
		theorem t (n m : Nat) : n = m by ||refl.
		theorem t (n : Nat) : add zero n = n by ||refl.
		theorem t : P zero by ||refl.
		theorem t : Nat by ||refl.
		theorem t (n : Nat) : n = n -> n = n by ||refl.
		theorem t (A : Prop) : A by ||refl.
		theorem t : Exists (fun n => n = zero) by ||refl.
		theorem t (n : Nat) : Not (n = n) by ||refl.
		theorem t : Exists (fun n => n = succ n) by apply (intro _); ||refl.
	`)
}

// symm: the other way round, and back again.
func TestSymm(t *testing.T) {
	allProve(t, `
		theorem t (a b : Nat) (h : a = b) : b = a by symm; exact h.
		theorem t (a b : Nat) (h : a = b) : a = b by symm; symm; exact h.
		theorem t (a b : Nat) (h : a = b) : Equal b a by symm; exact h.
		theorem t.{u} (A : Sort u) (a b : A) (h : a = b) : b = a by symm; assumption.
		theorem t (A B : Type) (h : A = B) : B = A by symm; exact h.
		theorem t (a b c : Nat) (h : a = b) (k : b = c) : c = a by symm; apply trans; exact h; exact k.
		theorem t (a b c : Nat) (h : b = a) (k : c = b) : a = c by apply trans; symm; exact h; symm; exact k.
		theorem t (a b : Nat) : (forall (x : Nat), x = b) -> b = a by intro h; symm; apply h.
		theorem t (n m : Nat) (h : n = m) (g : P m) : P n by have k : m = n; symm; exact h; rewrite h; exact g.
	`)
	allFail(t, `
		theorem t (A : Prop) : A by ||symm.
		theorem t (a b : Nat) (h : a = b) : a = b by symm; ||exact h.
		theorem t (a b : Nat) : Not (a = b) by ||symm.
		theorem t (a b : Nat) (h : a = b) : a = b -> b = a by ||symm; exact h.
		theorem t : Nat by ||symm.
		theorem t : Exists P by ||symm.
		||theorem t (a b : Nat) (h : a = b) : b = a by symm.
	`)
}

// rewrite: what of the goal becomes something else.
func TestRewrite(t *testing.T) {
	allProve(t, `
		theorem t (a b : Nat) (h : a = b) : succ a = succ b by rewrite h; refl.
		theorem t (a b c : Nat) (h : a = b) (k : b = c) : a = c by rewrite h; rewrite k; refl.
		theorem t (n m : Nat) (h : n = m) : P m -> P n by rewrite h; intro g; exact g.
		theorem t (n m : Nat) (h : n = m) (g : P m) : P n by rewrite h; exact g.
		theorem t (n m : Nat) (h : Equal n m) (g : P m) : P n by rewrite h; exact g.
		theorem t (n m : Nat) (h : id (n = m)) (g : P m) : P n by rewrite h; exact g.
		theorem t (A B : Prop) (h : A = B) (b : B) : A by rewrite h; exact b.
		theorem t (A B : Type) (h : A = B) (b : B) : A by rewrite h; exact b.
		theorem t (n m : Nat) (h : n = m) (v : Vec Nat m) : Vec Nat n by rewrite h; exact v.
		theorem t.{u, v} (A : Sort u) (B : A -> Sort v) (a b : A) (h : a = b) (x : B b) : B a by rewrite h; exact x.
		theorem t (n m : Nat) (h : n = m) : id (n = m) by rewrite h; refl.
		theorem t (n : Nat) (h : n = zero) : add n zero = zero by rewrite h; refl.
		theorem t (f g : Nat -> Nat) (h : f = g) : f zero = g zero by rewrite h; refl.
		theorem t (a b : Nat) (h : a = b) : (fun (x : Nat) => x = b) a by rewrite h; refl.
		theorem t (a b c : Nat) (h : b = c) (k : a = c) : a = b by apply trans; exact k; rewrite h; refl.
	`)
	allFail(t, `
		theorem t (n m : Nat) (h : n = m) : zero = zero by ||rewrite h.
		theorem t (n m : Nat) (h : n = m) : m = m by ||rewrite h.
		theorem t (A : Prop) (h : A) : A by ||rewrite h.
		theorem t (n m : Nat) (h : Not (n = m)) : n = m by ||rewrite h.
		theorem t : Nat by ||rewrite zero.
		theorem t : Nat by ||rewrite _.
		theorem t : Nat by ||rewrite zero zero.
		theorem t (n m : Nat) (h : n = m) (g : P n) : P n by rewrite h; ||exact g.
		theorem t (n m : Nat) (h : n = m) (v : Vec Nat n) : v = v by ||rewrite h; refl.
		||theorem t (n m : Nat) (h : n = m) : n = m by rewrite h.
	`)
}

// rewrite behind pi: what their variables stand for is found by the part that fits first.
func TestRewriteFinds(t *testing.T) {
	allProve(t, `
		theorem t (a b : Nat) (h : forall (x : Nat), x = b) : add a a = add b a by rewrite (h a); refl.
		theorem t (a b : Nat) (h : forall (x : Nat), add x x = b) : succ (add a a) = succ b by rewrite h; refl.
		theorem t (a b : Nat) (h : forall (x y : Nat), Q x y -> add x y = zero) (g : Q a b) : add a b = zero by rewrite (h a b g); refl.
		theorem t (a b : Nat) (h : forall {x y : Nat}, Q x y -> add x y = zero) (g : Q a b) : add a b = zero by rewrite (h _ _ g); refl.
		theorem t (a b c : Nat) (f : Nat -> Nat) (h : forall (x y : Nat), f x = y) (g : b = c) : f a = c by rewrite h; exact g.
		theorem t (h : forall (x : Nat), id (forall (y : Nat), add x y = zero)) (n : Nat) : add n one = zero by rewrite h; refl.
		axiom comm : forall (x y : Nat), add x y = add y x. theorem t (a b : Nat) : add a b = add b a by rewrite comm; refl.
		axiom comm : forall {x y : Nat}, add x y = add y x. theorem t (a b : Nat) : add a b = add b a by rewrite comm; refl.
		axiom comm (x y : Nat) : add x y = add y x. theorem t (a b : Nat) : add a b = add b a by rewrite (comm a); refl.
		theorem t (f : Nat -> Nat) (h : forall (x : Nat), f (f x) = x) (a : Nat) : f (f (f (f a))) = a by rewrite h; rewrite h; refl.
	`)
	allFail(t, `
		theorem t (f : Nat -> Nat) (h : forall (x : Nat), f (succ x) = x) (a : Nat) : f a = f a by ||rewrite h.
		theorem t (f : Nat -> Nat) (h : forall (x : Nat), f x = x) (a : Nat) : a = a by ||rewrite h.
		theorem t (f g : Nat -> Nat) (h : forall (k : Nat -> Nat), k zero = zero) : P one by ||rewrite h.
		theorem t (a b : Nat) (h : forall (x y : Nat), Q x y -> add x y = zero) : add a b = zero by ||rewrite h; refl.
	`)
}

// rewrite's order: a part ahead of those in it, the left one ahead of the right one; then all places that are the same as it.
func TestRewriteOrder(t *testing.T) {
	allProve(t, `
		theorem t (f : Nat -> Nat) (h : forall (x : Nat), f x = zero) (a b : Nat) (g : zero = f b) : f a = f b by rewrite h; exact g.
		theorem t (f : Nat -> Nat) (h : forall (x : Nat), f x = zero) (a : Nat) (g : zero = succ zero) : f (f a) = succ zero by rewrite h; exact g.
		theorem t (f : Nat -> Nat) (h : forall (x : Nat), f x = zero) (a b : Nat) (g : add zero (f b) = zero) : add (f a) (f b) = f a by rewrite h; exact g.
		theorem t (f : Nat -> Nat) (h : forall (x : Nat), f x = zero) (a b : Nat) (g : Q (succ zero) (f b)) : Q (succ (f a)) (f b) by rewrite h; exact g.
		theorem t (f : Nat -> Nat) (h : forall (x : Nat), f x = zero) (a b : Nat) (g : P zero -> P (f b)) : P (f a) -> P (f b) by rewrite h; exact g.
		theorem t (a b : Nat) (h : a = b) (g : Q b b -> P b) : Q a b -> P a by rewrite h; exact g.
		theorem t (a b : Nat) (f : Nat -> Nat) (h : f a = b) (g : Q b b) : Q (f a) (f a) by rewrite h; exact g.
		theorem t (h : forall (x : Nat), x = zero) (g : add zero zero = one) : add one zero = one by rewrite (h one); exact g.
	`)
	// only places that are the same as they are written: those that are but equal stay
	allFail(t, `
		theorem t (f : Nat -> Nat) (h : forall (x : Nat), f x = zero) (a b : Nat) (g : f a = zero) : f a = f b by rewrite h; ||exact g.
		theorem t (f : Nat -> Nat) (a b : Nat) (h : f zero = b) (g : Q b b) : Q (f zero) (f (add zero zero)) by rewrite h; ||exact g.
		theorem t (f : Nat -> Nat) (a : Nat) (h : f zero = a) (g : Q a (f zero)) : Q (f (id zero)) (f zero) by rewrite h; rewrite h; ||exact g.
	`)
	proves(t, "theorem t (f : Nat -> Nat) (a b : Nat) (h : f zero = b) (g : Q b (f zero)) : Q (f zero) (f (add zero zero)) by rewrite h; exact g.")
	proves(t, "theorem t (f : Nat -> Nat) (a b : Nat) (h : f zero = b) (g : Q b (f zero)) : Q (f (id zero)) (f zero) by rewrite h; exact g.")
}

// rewrite under binders: what hangs on their variables fits nothing that is found outside of them.
func TestRewriteUnderBinders(t *testing.T) {
	allProve(t, `
		theorem t (n m : Nat) (h : n = m) : forall (x : Nat), add x n = add x m by rewrite h; intro x; refl.
		theorem t (n m : Nat) (h : n = m) : (fun (x : Nat) => n) = (fun (x : Nat) => m) by rewrite h; refl.
		theorem t (n m : Nat) (h : n = m) (g : Exists (fun x => x = m)) : Exists (fun x => x = n) by rewrite h; exact g.
		theorem t (f : Nat -> Nat) (h : forall (x : Nat), f x = zero) (a : Nat) (g : forall (x : Nat), Q (f x) zero) : forall (x : Nat), Q (f x) (f a) by rewrite h; exact g.
		theorem t (n m : Nat) (h : n = m) (g : let x : Nat := m in P (add x m)) : let x : Nat := n in P (add x n) by rewrite h; exact g.
		theorem t (n m : Nat) (h : n = m) : forall (n : Nat), n = n by intro k; refl.
		theorem t (n m : Nat) (h : n = m) (g : forall (v : Vec Nat m), v = v) : forall (v : Vec Nat n), v = v by rewrite h; exact g.
	`)
	allFail(t, `
		theorem t (f : Nat -> Nat) (h : forall (x : Nat), f x = zero) : forall (x : Nat), f x = zero by ||rewrite h.
		theorem t (n m : Nat) (h : n = m) : forall (n : Nat), n = n by ||rewrite h.
	`)
}

// = is the constant Eq, as the library has it: with another one these tactics cannot do it.
func TestOtherEquality(t *testing.T) {
	nat := "inductive Nat : Type | zero : Nat | succ : Nat -> Nat. "
	for _, c := range [][2]string{
		{"inductive Eq.{v} {B : Sort v} (b : B) : B -> Prop | refl : Eq b b. ", "right"},
		{"inductive Eq.{u} (A : Sort u) (a : A) : A -> Prop | refl : Eq A a a. ", "right"},
		{"inductive Eq.{u} {A : Sort u} (a : A) : A -> Prop | same : Eq a a. ", "FTactic"},
		{"inductive Eq.{u} {A : Sort u} (a : A) : A -> Type | refl : Eq a a. ", "FTactic"},
		{"inductive Eq.{u} {A : Sort u} : A -> A -> Prop | refl : forall (a : A), Eq a a. ", "FTactic"},
		{"inductive Eq.{u} {A : Sort u} (a : A) : A -> Prop | refl : Eq a a | more : Eq a a. ", "FTactic"},
		{"inductive Eq {A : Type} (a : A) : A -> Prop | refl : Eq a a. ", "FTactic"},
		{"axiom Eq.{u} {A : Sort u} (a b : A) : Prop. axiom refl.{u} {A : Sort u} {a : A} : Eq a a. ", "FTactic"},
		{"", "FTactic"},
	} {
		text := nat + c[0] + "axiom E : Prop. "
		if equalityFits(c[0]) {
			text = nat + c[0] + "def E : Prop := @Eq.{1} Nat zero zero. "
		}
		last := "theorem t : E by refl."
		s := emptyState(t, text)
		if got := codeOf(s.Run(parsed(t, last)[0], 3000)); got != c[1] {
			t.Errorf("%s%s: %s, want %s", text, last, got, c[1])
		}
		for _, other := range []string{"theorem s (h : E) : E by symm; exact h.", "theorem s (h : E) : E by rewrite h; exact h."} {
			if got := codeOf(s.Run(parsed(t, other)[0], 3000)); c[1] != "right" && got != c[1] {
				t.Errorf("%s%s: %s, want %s", text, other, got, c[1])
			}
		}
	}
}
