package tactic_test

import (
	"strconv"
	"strings"
	"testing"
)

// induction and cases on families of every kind.
func TestInduction(t *testing.T) {
	allProve(t, `
		theorem t (n : Nat) : add zero n = n by induction n; refl; exact cong succ ih.
		theorem t : forall (n : Nat), add zero n = n by intro m; induction m; refl; simpl; apply (cong succ); exact ih.
		theorem t (n m : Nat) : add (succ m) n = succ (add m n) by induction n; refl; exact cong succ ih.
		theorem t (z : P zero) (s : forall (n : Nat), P n -> P (succ n)) (n : Nat) : P n by induction n; exact z; apply s; exact ih.
		theorem t (z : P zero) (s : forall (n : Nat), P n -> P (succ n)) (n : Nat) : P n by induction n; exact z; exact s a ih.
		theorem t.{u} {A : Sort (u+1)} (l : List A) : l = l by cases l; refl; refl.
		theorem t.{u} {A : Sort (u+1)} (l : List A) (P : List A -> Prop) (n : P nil) (c : forall (h : A) (t : List A), P t -> P (cons h t)) : P l by induction l; exact n; exact c a b ih.
		theorem t.{u} {A : Sort (u+1)} (x : Tree A) (P : Tree A -> Prop) (n : P leaf) (c : forall (l : Tree A) (v : A) (r : Tree A), P l -> P r -> P (node l v r)) : P x by induction x; exact n; exact c a b c' ih ih'.
		theorem t (A B : Prop) : And A B -> And B A by intro h; cases h; exact both b a.
		theorem t (A B : Prop) : And A B -> And B A by intro h; induction h; exact both b a.
		theorem t (A B : Prop) : Or A B -> Or B A by intro h; cases h; constructor 2; exact a; constructor 1; exact a.
		theorem t (A : Prop) : False -> A by intro h; cases h.
		theorem t.{u} (A : Sort u) : False -> A by intro h; induction h.
		theorem t (h : Exists P) : Exists P by cases h; exact intro a b.
		theorem t (h : True) : zero = zero by cases h; refl.
		theorem t (A B : Type) (x : Pair A B) : Pair B A by cases x; exact pair b a.
		theorem t (x : Number) : Nat by cases x; exact zero; exact a.
		theorem t (x : id Nat) : Nat by cases x; exact zero; exact a.
		theorem t.{u} {A : Sort u} (R : A -> A -> Prop) (S : A -> Prop) (s : forall (x : A), (forall (y : A), R y x -> S y) -> S x) (x : A) (h : Acc R x) : S x by induction h; apply s; exact ih.
		theorem t (n : Nat) : Nat by induction n; exact one; exact add ih ih.
		theorem t.{u} (n : Nat) (A : Sort u) (a : A) : A by induction n; exact a; exact ih.
		theorem t : forall (A B : Prop), And A B -> Or A B by intro A B h; cases h; constructor 1; assumption.
	`)
	allFail(t, `
		theorem t (n : Nat) : n = n by ||induction m.
		theorem t (n : Nat) : n = n by ||cases m.
		theorem t (n : Nat) : n = n by ||induction Nat.
		theorem t (A : Prop) (a : A) : A by ||cases a.
		theorem t (A : Prop) (a : A) : A by ||induction A.
		theorem t (f : Nat -> Nat) : Nat by ||cases f.
		theorem t (n : Nat) : n = n by ||cases zero.
		theorem t (h : P zero) : Nat by ||cases h.
		theorem t (A : Type) : Nat by ||cases A.
		theorem t (A B : Prop) (h : Or A B) : Nat by ||cases h; exact zero; exact zero.
		theorem t (h : Exists P) : Nat by ||cases h; exact a.
		theorem t (n : Nat) : n = n by cases n; refl; refl; ||refl.
		||theorem t (n : Nat) : n = n by induction n; refl.
		theorem t (n : Nat) : zero = n by induction n; refl; ||refl.
	`)
	fails(t, "theorem t (n : Nat) : add zero n = n by cases n; refl; exact cong succ ||ih.", "FName")
	fails(t, "theorem t (n : Nat) : add zero n = n by induction n; refl; exact cong succ ||ih'.", "FName")
}

// Indices: different variables; others are refused.
func TestIndices(t *testing.T) {
	allProve(t, `
		theorem t (n m : Nat) (h : n = m) : m = n by cases h; refl.
		theorem t (n m : Nat) (h : n = m) (P : Nat -> Prop) : P n -> P m by cases h; intro p; exact p.
		theorem t (A : Type) (n : Nat) (v : Vec A n) : n = n by induction v; refl; refl.
		theorem t (A : Type) (n : Nat) (v : Vec A n) : n = n by induction v; refl; exact (refl : succ a = succ a).
		theorem t (A : Type) (n : Nat) (v : Vec A n) : v = v by cases v; refl; exact (refl : vcons b c = vcons b c).
		theorem t (A : Type) (n : Nat) (v : Vec A n) : List A by induction v; exact nil; exact cons b ih.
		theorem t (n m : Nat) (l : Le n m) : Le n (succ m) by induction l; apply next; apply same; apply next; exact ih.
		theorem t (n m k : Nat) (l : Le n m) (g : Le m k) : Le n k by induction g; exact l; apply next; exact ih.
		theorem t (A : Type) (n m : Nat) (x : Two A n m) : Two A m n by induction x; exact turn b a ih; exact start a.
		theorem t (n : Nat) (l : Le n n) : n = n by induction l; refl; refl.
		theorem t (A : Type) (a : A) (h : a = a) : a = a by cases h; refl.
		theorem t (A : Type) (n : Nat) (v : Vec A n) (w : Vec A n) (h : v = w) (k : h = h) : Vec A n by cases h; cases n; exact w; exact w.
	`)
	allFail(t, `
		theorem t (A : Type) (v : Vec A zero) : v = v by ||cases v.
		theorem t (A : Type) (v : Vec A zero) : zero = zero by ||induction v.
		theorem t (A : Type) (n : Nat) (v : Vec A (succ n)) : n = n by ||cases v.
		theorem t (A : Type) (n : Nat) (v : Vec A (add n zero)) : n = n by ||cases v.
		theorem t (A : Type) (n : Nat) (v : Vec A (id n)) : n = n by ||cases v.
		theorem t (A : Type) (n : Nat) (x : Two A n n) : n = n by ||cases x.
		theorem t (A : Type) (n : Nat) (x : Two A n zero) : n = n by ||induction x.
		theorem t (A : Type) (n : Nat) (x : Two A zero n) : n = n by ||induction x.
		theorem t (n : Nat) (h : n = zero) : zero = n by ||cases h.
		theorem t (h : zero = zero) : zero = zero by ||cases h.
		theorem t (A : Type) (a : A) (h : a = a) : h = refl by ||cases h; refl.
	`)
}

// What hangs on the variable, or on its indices, is taken into the goal, and out of it again by its names.
func TestWhatHangs(t *testing.T) {
	allProve(t, `
		theorem t (n : Nat) (h : P n) (g : P n -> False) : False by cases n; exact g h; exact g h.
		theorem t (n : Nat) (h : P n) : P n by cases n; exact (h : P zero); exact (h : P (succ a)).
		theorem t (n : Nat) (h : P n) : P n by induction n; exact (h : P zero); exact (h : P (succ a)).
		theorem t (n : Nat) (h : P n) (k : P n -> P one) : P one by induction n; exact k h; exact k h.
		theorem t (n : Nat) (v : Vec Nat n) (h : v = v) : n = n by cases n; have g : v = v; exact h; refl; have g : v = v; exact (h : v = (v : Vec Nat (succ a))); refl.
		theorem t (n m : Nat) (h : P m) (e : n = m) : P n by cases e; exact h.
		theorem t (n m : Nat) (e : n = m) (h : P m) (k : P m -> False) : False by cases e; exact (k : P n -> False) h.
		theorem t (A : Type) (n : Nat) (v w : Vec A n) (h : v = w) : w = v by cases h; refl.
		theorem t (A : Type) (n : Nat) (h : P n) (v : Vec A n) : P n by cases v; exact (h : P zero); exact (h : P (succ a)).
		theorem t (A : Type) (n m : Nat) (x : Two A n m) (h : n = m) : m = n by induction x; symm; exact (h : b = a); exact (h : zero = zero).
		theorem t (n m : Nat) (e : n = m) (v : Vec Nat m) (h : v = v) : Vec Nat n by cases e; exact v.
		theorem t (a : Nat) (n : Nat) (h : P a) : P a by cases n; exact h; exact h.
		theorem t (n : Nat) (h : P n -> P zero) : P n -> P zero by induction n; exact h; exact (h : P (succ a) -> P zero).
		theorem t (n : Nat) (h : P n) : (P zero -> P zero) by induction n; intro g; exact h; exact (fun g => g : P zero -> P zero).
		theorem t (n : Nat) (F : Vec Nat n -> Prop) (v : Vec Nat n) (h : F v) : F v by cases n; exact h; exact h.
		theorem t (n : Nat) (F : Vec Nat n -> Prop) (v : Vec Nat n) (h : F v) (m : Nat) : F v by induction m; exact h; exact h.
		theorem t (n : Nat) (h : P n) : P zero -> P zero by induction n; exact fun g => h; have k : P a -> P zero -> P zero; exact ih; exact fun g => g.
	`)
	allFail(t, `
		theorem t (n : Nat) (h : P n) : P n by cases n; ||exact (h : P one); exact h.
		theorem t (n m : Nat) (h : P n) (e : n = m) : P m by cases e; ||exact (h : P m).
		theorem t (n : Nat) (h : P n) : P n by induction n; exact h; ||exact ih.
		theorem t (n : Nat) (h : P n) : P n by cases n; have k : P n; ||assumption; exact h; exact h.
		theorem t (n : Nat) (h : P n) (g : forall (k : P n), Nat) : P n by cases n; have k : P n; ||assumption; exact h; exact h.
	`)
	// they stand behind the constructor's arguments and hypotheses, in their order
	isValue(t, "theorem t (n : Nat) (h : P n) (k : P n) : P n by cases n; assumption; assumption.",
		"(app (app (app (app (app (app (const Nat.rec 0) (lam (const Nat) (pi (app (const P) #0) (pi (app (const P) #1) (app (const P) #2))))) (lam (app (const P) (const zero)) (lam (app (const P) (const zero)) #0))) "+
			"(lam (const Nat) (lam (pi (app (const P) #0) (pi (app (const P) #1) (app (const P) #2))) (lam (app (const P) (app (const succ) #1)) (lam (app (const P) (app (const succ) #2)) #0))))) #2) #1) #0)")
}

// What the motive makes of a constructor is told without its beta steps: parts of the goal are what they seem to be.
func TestWithoutBeta(t *testing.T) {
	allProve(t, `
		theorem t (n m : Nat) (f : Nat -> Nat) (h : f zero = m) (g : f (succ zero) = m) (k : forall (x : Nat), f (succ x) = m) : f n = m by cases n; rewrite h; refl; rewrite (k a); refl.
		theorem t (n : Nat) (f : Nat -> Nat) (h : forall (x : Nat), f (succ x) = f x) : f n = f zero by induction n; refl; rewrite (h a); rewrite ih; refl.
		theorem t (n : Nat) : P n -> P n by cases n; intro h; exact h; intro h; exact h.
		theorem t (f : Nat -> Nat) (n m : Nat) (e : n = m) (h : f n = zero) : f m = zero by cases e; rewrite h; refl.
	`)
}

// Names of arguments: by their places; behind z again a, with a sign behind it; those that variables have already get more signs.
func TestNamesOfArguments(t *testing.T) {
	many := "inductive Many : Type | many : " + strings.Repeat("Nat -> ", 60) + "Many. "
	for place, name := range map[int]string{0: "a", 1: "b", 13: "n", 25: "z", 26: "a'", 27: "b'", 51: "z'", 52: "a''", 59: "h''"} {
		isValue(t, many+"theorem t : Many -> Nat by intro it; cases it; exact "+name+".",
			"(app (app (app (const Many.rec (s 0)) (lam (const Many) (const Nat))) "+strings.Repeat("(lam (const Nat) ", 60)+"#"+strconv.Itoa(59-place)+strings.Repeat(")", 60)+") #0)")
	}
	fails(t, many+"theorem t : Many -> Nat by intro it; cases it; exact ||i''.", "FName")
	allProve(t, `
		theorem t (z : P zero) (s : forall (n : Nat), P n -> P (succ n)) (a n : Nat) : P n by induction n; exact z; exact s a' ih.
		theorem t (z : P zero) (s : forall (n : Nat), P n -> P (succ n)) (a a' n : Nat) : P n by induction n; exact z; exact s a'' ih.
		theorem t (z : P zero) (s : forall (n : Nat), P n -> P (succ n)) (n : Nat) (a : P n) : P n by induction n; exact z; exact s a' (ih p).
		theorem t (z : P zero) (s : forall (n : Nat), P n -> P (succ n)) (a : Prop) (n : Nat) (a : Prop) : P n by induction n; exact z; exact s a' ih.
		theorem t (A B : Prop) (b : B) (h : And A B) : And A B by cases h; exact both a b'.
		theorem t (n m : Nat) : n = n by cases n; refl; cases m; refl; exact (refl : succ a = succ a).
		theorem t (n m : Nat) : m = m by cases n; refl; cases m; refl; exact (refl : succ a' = succ a').
	`)
}

// Names of hypotheses: ih, with a sign behind it where a variable has that name already.
func TestNamesOfHypotheses(t *testing.T) {
	allProve(t, `
		theorem t.{u} {A : Sort (u+1)} (x : Tree A) : Nat by induction x; exact zero; exact add ih ih'.
		theorem t (z : P zero) (s : forall (n : Nat), P n -> P (succ n)) (ih n : Nat) : P n by induction n; exact z; exact s a ih'.
		theorem t (z : P zero) (s : forall (n : Nat), P n -> P (succ n)) (n ih ih' : Nat) : P n by induction n; exact z; exact s a ih''.
		theorem t (z : P zero) (s : forall (n : Nat), P n -> P (succ n)) (n : Nat) (ih : P n) : P n by induction n; exact ih; exact s a (ih' p).
		theorem t (n m : Nat) : Nat by induction n; exact m; induction m; exact ih; exact add ih ih'.
		inductive Wide : Type | wide : (Nat -> Wide) -> Nat -> (Prop -> Wide) -> Wide. theorem t (w : Wide) : Nat by induction w; exact add (ih b) (ih' False).
	`)
	fails(t, "theorem t (n : Nat) (ih : P n) : P n by induction n; exact ih; exact ||ih''.", "FName")
	allFail(t, `
		theorem t (z : P zero) (s : forall (n : Nat), P n -> P (succ n)) (n : Nat) (ih : P n) : P n by induction n; exact z; ||exact s a ih.
	`)
}

// The variable and its indices stay in the context.
func TestVariableStays(t *testing.T) {
	allProve(t, `
		theorem t (A B : Prop) (h : And A B) : And A B by cases h; exact h.
		theorem t (n m : Nat) (e : n = m) : Nat by cases e; exact m.
		theorem t (n : Nat) : Nat by induction n; exact n; exact add n a.
		theorem t (n : Prop) (n : Nat) : n = n by cases n; refl; refl.
		theorem t (n : Prop) (n : Nat) : n = n by induction n; refl; refl.
	`)
	// a hypothesis that cases has no name for is no variable
	isValue(t, "theorem t (n : Nat) : Nat by cases n; exact zero; assumption.", "(app (app (app (app (const Nat.rec (s 0)) (lam (const Nat) (const Nat))) (const zero)) (lam (const Nat) (lam (const Nat) #1))) #0)")
	isValue(t, "theorem t (n : Nat) : Nat by induction n; exact zero; assumption.", "(app (app (app (app (const Nat.rec (s 0)) (lam (const Nat) (const Nat))) (const zero)) (lam (const Nat) (lam (const Nat) #0))) #0)")
}
