package tactic_test

import "testing"

// intro: of a pi as it stands, of one that a goal comes to; several names; names that there are already.
func TestIntro(t *testing.T) {
	allProve(t, `
		theorem t : forall (A : Prop), A -> A by intro A; intro h; exact h.
		theorem t : forall (A : Prop), A -> A by intro A h; exact h.
		theorem t (A B C : Prop) : A -> B -> C -> B by intro a b c; exact b.
		theorem t (A : Prop) : Not A -> Not A by intro f a; exact f a.
		theorem t (A : Prop) : A -> Not (Not A) by intro a f; exact f a.
		theorem t : id (Nat -> Nat) by intro n; exact n.
		theorem t : id (Nat -> id (Nat -> Nat)) by intro n m; exact n.
		theorem t : (fun (A : Type) => A -> A) Nat by intro n; exact n.
		theorem t : let A : Type := Nat in A -> A by intro n; exact n.
		theorem t (n : Nat) : Nat.rec (fun x => Prop) (P n -> P n) (fun k r => r) zero by intro h; exact h.
		theorem t (A B : Prop) : A -> B -> B by intro x x; exact x.
		theorem t (A B : Prop) (x : B) : A -> A by intro x; exact x.
		theorem t (A : Prop) : A -> A by intro zero; exact zero.
		theorem t : forall (n : Nat), P n -> P n by intro m h; exact (h : P m).
		theorem t : forall {A : Prop}, A -> A by intro A a; exact a.
		theorem t.{u, v} : forall (A : Sort u) (B : A -> Sort v) (f : forall (x : A), B x) (x : A), B x by intro A B f x; exact f x.
		theorem t : forall (n : Nat) (h : P n) (f : P n -> P one), P one by intro n; intro h f; exact f h.
	`)
	allFail(t, `
		theorem t (A : Prop) : A by ||intro h.
		theorem t (A : Prop) : A -> A by ||intro h k.
		theorem t (A : Prop) : A -> A by intro h; ||intro k.
		theorem t : zero = zero by ||intro h.
		theorem t : Type by ||intro h.
		theorem t (n : Nat) : Nat.rec (fun x => Prop) (P n -> P n) (fun k r => r) n by ||intro h.
		theorem t : _ by ||intro h.
	`)
}

// exact: of every kind of expression; what is left open in it, and in the goal; where it has another type.
func TestExact(t *testing.T) {
	allProve(t, `
		theorem t : Nat by exact zero.
		theorem t : Nat by exact @succ @zero.
		theorem t : Nat -> Nat by exact succ.
		theorem t : Nat -> Nat by exact fun x => x.
		theorem t : zero = zero by exact refl.
		theorem t : one = succ zero by exact refl.
		theorem t : List Nat by exact cons zero nil.
		theorem t : Nat by exact (fun x => succ x) (id zero).
		theorem t : Nat by exact let x : Nat := zero in id x.
		theorem t : Nat by exact (zero : id Nat).
		theorem t : Nat by exact (id (zero : _) : Number).
		theorem t (A B : Prop) : And A B -> And B A by exact fun h => And.rec A B (fun x => And B A) (fun a b => both b a) h.
		theorem t (A B : Prop) : And A B -> And B A by exact fun h => And.rec _ _ _ (fun a b => both b a) h.
		theorem t.{u} (A : Sort u) (a : A) : A by exact id a.
		theorem t.{u} (A : Sort u) (a : A) : A by exact @id.{u} A a.
		theorem t (m : Nat) : add m one = succ m by exact refl.
		theorem t : P (add one one) by exact (p : P (succ _)).
		theorem t (a b c : Nat) (h : a = b) (k : b = c) : a = c by apply trans; exact h; exact k.
		theorem t : _ by exact zero.
		theorem t : Exists (fun x => x = one) by apply intro; exact _; exact (refl : one = one).
		axiom f {n : Nat} (v : Vec Nat n) : P (add n zero). theorem t (v : Vec Nat zero) : P zero by exact f v.
		axiom any : Nat -> Nat. def const (n : Nat) : Nat := zero. axiom f {n : Nat} (v : Vec Nat n) : P (const n). theorem t (v : Vec Nat zero) : P (const one) by exact f v.
	`)
	allFail(t, `
		theorem t (A B : Prop) : A -> B by intro h; ||exact h.
		theorem t : zero = succ zero by ||exact refl.
		theorem t (n m : Nat) : n = m by ||exact cong succ refl.
		theorem t : Nat by ||exact succ.
		theorem t : Nat by ||exact zero zero.
		theorem t : Nat by ||exact @id zero.
		theorem t : Nat by ||exact @id.{1, 2} Nat zero.
		theorem t : Nat by ||exact id.{2} zero.
		theorem t : Nat by ||exact (zero : Prop).
		theorem t : Nat by ||exact _.
		theorem t : Nat by ||exact id _.
		theorem t : Nat by ||exact (_ : Nat).
		theorem t : Nat by ||exact (fun x => zero) nil.
		theorem t : Type 1 by ||exact Sort u.
		theorem t (A : Prop) (a : A) : A by ||exact A.
		theorem t : Exists (fun x => x = succ x) by ||exact intro _ refl.
		theorem t : Nat by apply id; ||exact nil.
	`)
}

// Names that are not there: FName at the name, in whichever tactic.
func TestNames(t *testing.T) {
	all(`
		theorem t : Nat by exact ||nothing.
		theorem t (n : Nat) : Nat by exact succ ||m.
		theorem t (n : Nat) : Nat by exact ||n.{1}.
		theorem t : Nat by apply ||nothing; exact zero.
		theorem t : Nat by simpl; rewrite (cong ||nothing).
		theorem t : Nat by have x : ||nothing; exact zero.
		theorem t : Exists P by exists ||nothing.
		theorem t : ||nothing by refl.
		theorem t (n : ||nothing) : Nat by exact n.
		theorem t : Nat -> Nat by exact ||n; intro n.
		theorem t (A : Prop) : A -> A by intro h; exact ||k.
		theorem t : Nat by have x : Nat; exact ||x; exact zero.
		theorem t : Nat by exact ||t.
		theorem t : Nat by exact (fun (x : Nat) => x) ||x.
	`, func(line string) { fails(t, line, "FName") })
}

// assumption: the last variable whose type is the goal.
func TestAssumption(t *testing.T) {
	allProve(t, `
		theorem t (A : Prop) (a : A) : A by assumption.
		theorem t (A B : Prop) : A -> B -> A by intro a b; assumption.
		theorem t (A B : Prop) (a : A) (b : B) : A by assumption.
		theorem t (A : Prop) (f : Not A) : A -> False by assumption.
		theorem t (h : P (add one one)) : P (succ (succ zero)) by assumption.
		theorem t (n : Number) : Nat by assumption.
		theorem t (a b c : Nat) (h : a = b) (k : b = c) : a = c by apply trans; assumption; assumption.
		theorem t (n : Nat) (h : P n) : P n by assumption.
		theorem t (x : Nat) : Nat by assumption.
		theorem t (n : Nat) : Nat -> Nat by intro n; assumption.
	`)
	// which one it is is seen where another one would do, but not for what stands behind it
	for text, want := range map[string]string{
		"theorem t (a b c : Nat) : Nat by assumption.":                         "#0",
		"theorem t (a b : Nat) (A : Prop) : Nat by assumption.":                "#1",
		"theorem t (a : Nat) (b : id Nat) (c : List Nat) : Nat by assumption.": "#1",
		"theorem t (a : id Nat) (c : List Nat) : Nat by assumption.":           "#1",
		"theorem t (a : Nat) : Number -> Nat by intro a; assumption.":          "#0",
	} {
		isValue(t, text, want)
	}
	allFail(t, `
		theorem t (A B : Prop) (a : A) : B by ||assumption.
		theorem t : Nat by ||assumption.
		theorem t (n m : Nat) (h : P n) : P m by ||assumption.
		theorem t (A : Prop) : A -> A by ||assumption.
		theorem t : zero = zero by ||assumption.
	`)
}

// have: the type first, then the goal with a variable of it.
func TestHave(t *testing.T) {
	allProve(t, `
		theorem t (A : Prop) (n : Nat) : (n = n -> A) -> A by intro f; have h : n = n; refl; exact f h.
		theorem t (A B : Prop) (f : A -> B) (a : A) : B by have b : B; exact f a; exact b.
		theorem t (A B : Prop) (f : A -> B) (a : A) : B by have b : A; exact a; exact f b.
		theorem t : Nat by have n : Nat; exact zero; have m : Nat; exact succ n; exact add n m.
		theorem t (n : Nat) (h : P n) : P n by have n : Nat; exact zero; exact h.
		theorem t (n : Nat) : n = n by have h : _ = n; refl; exact h.
		theorem t (n : Nat) : n = n by have h : forall (x : _), x = n -> n = x; intro x k; symm; exact k; exact h n refl.
		theorem t.{u} (A : Sort u) (a : A) : A by have b : id A; exact a; exact b.
		theorem t : Nat by have n : (Nat : Type); exact zero; exact n.
		theorem t : Type by have A : Type; exact Nat; exact A.
		theorem t (A B : Prop) (a : A) (f : A -> B) : And A B by have b : B; apply f; exact a; constructor 1; exact a; exact b.
	`)
	allFail(t, `
		theorem t : Nat by ||have x : zero; exact zero; exact x.
		theorem t : Nat by ||have x : zero zero; exact zero.
		theorem t : Nat by ||have x : succ; exact zero.
		theorem t : Nat by have x : zero = one; ||refl; exact zero.
		theorem t : Nat by have x : List Nat; ||exact zero; exact zero.
		theorem t : Nat by have x : List Nat; exact nil; ||exact x.
		theorem t : Nat by ||have x : List.{1} Nat; exact nil; exact zero.
		||theorem t : Nat by have x : Nat; exact zero.
	`)
	// what a have is for is not known ahead of it: x stands for nothing but something of that type
	allFail(t, `theorem t : one = one by have x : Nat; exact one; have h : x = one; ||refl; refl.`)
}

// simpl: the goal in normal form, as what is done by what is written shows.
func TestSimpl(t *testing.T) {
	allProve(t, `
		theorem t (n : Nat) : add n zero = n by simpl; refl.
		theorem t : Nat by simpl; exact zero.
		theorem t (A : Prop) : Not A -> Not A by simpl; intro f; exact f.
		theorem t (n m : Nat) (h : succ n = m) (g : P m) : P (add n one) by simpl; rewrite h; exact g.
		theorem t : P (id one) by simpl; simpl; exact p.
		theorem t (h : forall (x : Nat), succ x = zero) : add one one = zero by simpl; rewrite (h (succ zero)); refl.
		theorem t (a b c : Nat) (h : a = b) (k : b = c) : a = c by apply trans; simpl; exact h; simpl; exact k.
	`)
	// without it the places that are the same are others
	allFail(t, `
		theorem t (n m : Nat) (f : Nat -> Nat) (h : f zero = m) : f (add zero n) = n by ||rewrite h.
		theorem t : Nat by simpl; exact zero; ||simpl.
		||theorem t : Nat by simpl.
	`)
}
