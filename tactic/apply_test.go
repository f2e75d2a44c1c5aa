package tactic_test

import "testing"

// apply: none, one, several pi; a variable, a constant, any expression.
func TestApply(t *testing.T) {
	allProve(t, `
		theorem t (A : Prop) (a : A) : A by apply a.
		theorem t (A B : Prop) (f : A -> B) : A -> B by apply f.
		theorem t (A B : Prop) (f : A -> B) : A -> B by intro a; apply f; exact a.
		theorem t (A B C : Prop) (f : A -> B -> C) : A -> B -> C by intro a b; apply f; exact a; exact b.
		theorem t (A B C : Prop) (f : A -> B -> C) (a : A) : B -> C by apply f; exact a.
		theorem t (A B : Prop) (f : A -> B) (g : B -> A) (a : A) : A by apply g; apply f; apply a.
		theorem t (A : Prop) (f : Not A) (a : A) : False by apply f; exact a.
		theorem t (A : Prop) (f : Not A) : Not A by apply f.
		theorem t (A : Prop) (f : id (A -> A)) (a : A) : A by apply f; exact a.
		theorem t (f : forall (n : Nat), P n -> P (succ n)) (h : P zero) : P one by apply f; exact h.
		theorem t (f : forall (n : Nat), P n -> P (succ n)) (h : P zero) : P (add zero one) by apply f; exact h.
		theorem t (f : forall (A : Prop), A) : zero = one by apply f.
		theorem t (f : forall (A : Prop), A) : forall (A : Prop), A by apply f.
		theorem t (f : forall (A : Prop), A -> A) (g : P zero) : P zero by apply f; exact g.
		theorem t : P zero by apply p.
		theorem t : Nat by apply succ; apply succ; apply zero.
		theorem t : Nat -> Nat by apply succ.
		theorem t (n : Nat) : n = n by apply refl.
		theorem t (n : Nat) : n = n by apply (refl : n = n).
		theorem t : Nat by apply (fun (x : Nat) => succ x); exact zero.
		theorem t : Nat by apply (let x : Nat := one in add x); exact zero.
		theorem t (n m : Nat) (h : n = m) : succ n = succ m by apply (cong succ); exact h.
		theorem t.{u} (A : Sort u) (a : A) : A by apply id; exact a.
		theorem t : forall (n : Nat), add zero n = n by apply (Nat.rec (fun n => add zero n = n)); refl; intro k ih; exact cong succ ih.
		theorem t : forall (n : Nat), add zero n = n by apply Nat.rec; refl; intro k ih; exact cong succ ih.
		theorem t : Exists P by apply intro; exact one; exact p.
		theorem t (A B : Prop) (a : A) (b : B) : And A B by apply both; exact a; exact b.
	`)
	allFail(t, `
		theorem t (n m k : Nat) (h : n = m) : k = k by ||apply h.
		theorem t (A B C : Prop) (f : A -> B) : C by ||apply f.
		theorem t (A B : Prop) (f : A -> B) (b : B) : A by ||apply f.
		theorem t : Nat by ||apply nil.
		theorem t : Nat by ||apply zero zero.
		theorem t : Nat by ||apply Prop.
		theorem t (f : forall (n : Nat), P n -> P (succ n)) : P zero by ||apply f.
		theorem t (A B : Prop) (f : A -> B) (a : A) : B by apply f; ||exact f.
		||theorem t (A B : Prop) (f : A -> B) (a : A) : B by apply f.
		theorem t : Nat by ||apply _.
		theorem t (A B : Prop) (f : A -> A -> B) (a : A) : B by apply f; exact a; exact a; ||exact a.
	`)
}

// Which arguments become goals: the explicit ones that have not been found, in their order.
func TestApplyLeaves(t *testing.T) {
	allProve(t, `
		theorem t : Q one one by apply q; refl; exact p.
		theorem t : Q one one by apply (q one); refl; exact p.
		theorem t : Q one one by apply (q _); refl; exact p.
		theorem t : Q one one by apply (q one refl); exact p.
		theorem t : Q one one by apply @q; refl; exact p.
		axiom f (x : Nat) {y : Nat} (h : x = y) : P y. theorem t : P one by apply f; exact one; refl.
		axiom f (x : Nat) {y : Nat} (h : x = y) : P y. theorem t : P one by apply @f; exact one; refl.
		axiom f (x : Nat) {y : Nat} (h : x = y) : P y. theorem t : P one by apply (f _); refl.
		axiom f {x y : Nat} (h : x = y) : P zero. theorem t : P zero by apply f; exact (refl : one = one).
		axiom f {x y : Nat} (h : x = y) : P zero. theorem t : P zero by apply @f; exact one; exact one; refl.
		axiom f : forall (A : Prop) (a : A) (B : Prop) (b : B), Nat. theorem t (A : Prop) (a : A) : Nat by apply f; exact A; exact a; exact (zero = zero); refl.
		axiom f : Nat -> forall {n : Nat}, P n -> Prop -> List Nat. theorem t : List Nat by apply f; exact zero; exact (p : P one); exact False.
		theorem t (f : forall {x : Nat}, x = x -> P zero) : P zero by apply f; exact one; refl.
		theorem t (a b c : Nat) (h : a = b) (k : b = c) : a = c by apply trans; exact h; exact k.
		theorem t (a b c : Nat) (h : a = b) (k : b = c) : a = c by apply (trans h); exact k.
		theorem t (a b c : Nat) (h : a = b) (k : b = c) : a = c by apply @trans; exact b; exact h; exact k.
		theorem t (f : Nat -> Nat) (a b : Nat) (h : a = b) : f a = f b by apply cong; exact f; exact h.
		axiom f (x : Nat) (h : x = one) (g : P x) : List Nat. theorem t : List Nat by apply f; exact one; refl; exact p.
		axiom f (x : Nat) (y : x = one) (z : y = y) : Nat. theorem t : Nat by apply f; exact one; exact refl; refl.
	`)
	// the first goal is the first one, and found ones are none
	allFail(t, `
		theorem t (A B C : Prop) (f : A -> B -> C) (a : A) (b : B) : C by apply f; ||exact b; exact a.
		axiom f (x : Nat) {y : Nat} (h : x = y) : P y. theorem t : P one by apply f; ||refl.
		theorem t : Q one one by apply q; ||exact one; refl; exact p.
		theorem t : Q one one by apply q; ||exact p; refl.
		axiom f {x y : Nat} (h : x = y) : P zero. theorem t : P zero by apply f; ||exact one.
		theorem t : Exists P by apply intro; ||exact p; exact one.
		axiom f {n : Nat} : P zero. theorem t : P zero by ||apply f.
	`)
}

// A goal that has been found by what another one was is none any more.
func TestFoundGoals(t *testing.T) {
	allProve(t, `
		axiom f {y : Nat} (h : y = one) (x : Nat) (g : y = x) : P zero. theorem t : P zero by apply f; refl; exact one; refl.
		axiom f (A : Type) (a : A) (b : A) : P zero. theorem t : P zero by apply (f _); exact zero; exact one.
		axiom R : (Nat -> Nat) -> Nat -> Prop. axiom f (g : Nat -> Nat) (x : Nat) : R g (g x). theorem t : R succ one by apply f.
		axiom R : Nat -> Prop. axiom f (g : Nat -> Nat) (x : Nat) : R (g x). theorem t : R one by apply f; exact succ.
		axiom f {g : Nat -> Nat} {x : Nat} (h : P (g x)) : P zero. theorem t (h : P (succ zero)) : P zero by apply f; exact h.
	`)
	allFail(t, `
		axiom R : Nat -> Prop. axiom f (g : Nat -> Nat) (x : Nat) : R (g x). theorem t : R one by apply f; exact succ; ||exact zero.
		axiom R : Nat -> Prop. axiom f (g : Nat -> Nat) (x : Nat) : R (g x). theorem t : R zero by apply f; ||exact succ.
	`)
}

// What has come to be a goal of its own, of which others speak, can be found by every tactic.
func TestGoalsThatOthersSpeakOf(t *testing.T) {
	more := "axiom f (x : Nat) (h : x = x) : P zero. axiom g (k : Nat -> Nat) (h : k = k) : P zero. axiom e (a : zero = one) (h : a = a) : P zero. axiom u (x : Exists P) (h : x = x) : P zero. "
	all(`
		theorem t : P zero by apply f; exact zero; refl.
		theorem t : P zero by apply f; apply succ; exact zero; refl.
		theorem t : P zero by apply f; constructor 2; constructor 1; refl.
		theorem t : P zero by apply f; have n : Nat; exact zero; exact n; refl.
		theorem t (n : Nat) : P zero by apply f; assumption; refl.
		theorem t (n : Nat) : P zero by apply f; induction n; exact zero; exact ih; refl.
		theorem t (n : Nat) : P zero by apply f; cases n; exact zero; exact a; refl.
		theorem t : P zero by apply f; simpl; exact one; refl.
		theorem t : P zero by apply g; intro x; exact succ x; refl.
		theorem t : P zero by apply g; intro x; induction x; exact zero; exact ih; refl.
		theorem t (h : one = zero) : P zero by apply e; symm; exact h; refl.
		theorem t (n : Nat) (h : one = n) (k : zero = n) : P zero by apply e; rewrite k; symm; exact h; refl.
		theorem t : P zero by apply u; exists one; exact p; refl.
		theorem t : P zero by apply u; apply intro; exact one; exact p; refl.
		theorem t : P zero by apply f; apply add; exact one; exact zero; refl.
	`, func(line string) { proves(t, more+line) })
}

// constructor: the one of that number of the family that the goal is.
func TestConstructor(t *testing.T) {
	allProve(t, `
		theorem t : Nat by constructor 1.
		theorem t : Nat by constructor 2; constructor 2; constructor 1.
		theorem t (A B : Prop) : And A B -> And B A by intro h; cases h; constructor 1; exact b; exact a.
		theorem t (A B : Prop) (a : A) : Or A B by constructor 1; exact a.
		theorem t (A B : Prop) (b : B) : Or A B by constructor 2; exact b.
		theorem t : zero = zero by constructor 1.
		theorem t : add one one = succ one by constructor 1.
		theorem t : Equal one one by constructor 1.
		theorem t : Number by constructor 2; constructor 1.
		theorem t : Exists P by constructor 1; exact one; exact p.
		theorem t.{u} (A : Sort (u+1)) (a : A) : List A by constructor 2; exact a; constructor 1.
		theorem t (A : Type) (a : A) : Vec A one by constructor 2; exact a; constructor 1.
		theorem t (m : Nat) : Le m (succ m) by constructor 2; constructor 1.
		theorem t (zero : Prop) (succ : Prop) : Nat by constructor 2; constructor 1.
		theorem t : True by constructor 1.
	`)
	allFail(t, `
		theorem t (A B : Prop) : Or A B by ||constructor 3.
		theorem t (A B : Prop) : Or A B by ||constructor 0.
		theorem t : False by ||constructor 1.
		theorem t (A : Prop) : A by ||constructor 1.
		theorem t : Nat -> Nat by ||constructor 1.
		theorem t : Type by ||constructor 1.
		theorem t : zero = one by ||constructor 1.
		theorem t (A : Type) : Vec A one by ||constructor 1.
		theorem t (A : Type) : Vec A zero by ||constructor 2.
		theorem t : P zero by ||constructor 1.
		theorem t (A B : Prop) (b : B) : Or A B by constructor 1; ||exact b.
		theorem t : _ by ||constructor 1.
	`)
}

// exists: the first constructor, and its first explicit argument.
func TestExists(t *testing.T) {
	allProve(t, `
		theorem t : Exists (fun (n : Nat) => add n (succ zero) = succ (succ zero)) by exists succ zero; refl.
		theorem t : Exists P by exists zero; exact p.
		theorem t : Exists P by exists (add one one); exact p.
		theorem t : Exists (fun n => n = one) by exists _; refl.
		theorem t : Exists (fun x => x = nil) by exists @nil Nat; refl.
		theorem t : Exists (fun (l : List Nat) => l = nil) by exists nil; refl.
		theorem t : id (Exists P) by exists one; exact p.
		theorem t (A B : Prop) (a : A) (b : B) : And A B by exists a; exact b.
		theorem t (A B : Prop) (a : A) : Or A B by exists a.
		theorem t (m : Nat) (A : Type) (a : A) : Pair A Nat by exists a; exact m.
		theorem t : Exists (fun n => Exists (fun m => add n m = m)) by exists zero; exists zero; refl.
		theorem t.{u} (A : Sort u) (a : A) : Exists (fun x => x = a) by exists a; refl.
		theorem t : Exists (fun (f : Nat -> Nat) => f zero = one) by exists fun x => succ x; refl.
	`)
	allFail(t, `
		theorem t : zero = zero by ||exists zero.
		theorem t : Nat by ||exists zero.
		theorem t (A : Prop) (a : A) : A by ||exists a.
		theorem t : False by ||exists zero.
		theorem t : Exists P by ||exists Nat.
		theorem t : Exists P by ||exists succ; exact p.
		theorem t : Exists P -> Exists P by ||exists zero.
		theorem t : Exists (fun n => n = succ n) by exists zero; ||refl.
		theorem t : True by ||exists zero.
		||theorem t : Exists P by exists zero.
	`)
}
