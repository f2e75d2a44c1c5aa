package elab

import "testing"

// Commands of every kind, with and without binders and parameters, and what each becomes.
func TestCommands(t *testing.T) {
	for _, c := range [][2]string{
		{"axiom a : Nat.", "(axiom a () (const Nat))"},
		{"axiom a (x : Nat) : Nat.", "(axiom a () (pi (const Nat) (const Nat)))"},
		{"axiom a (x y : Nat) {z : Nat} : x = z.", "(axiom a () (pi (const Nat) (pi (const Nat) (pi (const Nat) (app (app (app (const Eq (s 0)) (const Nat)) #2) #0)))))"},
		{"axiom a.{u, v} (A : Sort u) : A -> Sort v.", "(axiom a (u v) (pi (sort u) (pi #0 (sort v))))"},
		{"axiom a.{u} : Sort (max u 3) -> Sort (imax (u+1) (max u 2)).", "(axiom a (u) (pi (sort (max u (s (s (s 0))))) (sort (imax (s u) (max u (s (s 0)))))))"},
		{"axiom a : Prop -> Type -> Type 0 -> Type 2 -> Sort 0 -> Sort 2.", "(axiom a () (pi (sort 0) (pi (sort (s 0)) (pi (sort (s 0)) (pi (sort (s (s (s 0)))) (pi (sort 0) (sort (s (s 0)))))))))"},
		{"def a : Nat := zero.", "(def a () (const Nat) (const zero))"},
		{"def a (x : Nat) : Nat := x.", "(def a () (pi (const Nat) (const Nat)) (lam (const Nat) #0))"},
		{"def a (x : Nat) {y : Nat} : Nat -> Nat := fun (z : Nat) => x.", "(def a () (pi (const Nat) (pi (const Nat) (pi (const Nat) (const Nat)))) (lam (const Nat) (lam (const Nat) (lam (const Nat) #2))))"},
		{"def a.{u} (A : Sort u) (B : A -> Sort u) (x : A) : Sort u := B x.", "(def a (u) (pi (sort u) (pi (pi #0 (sort u)) (pi #1 (sort u)))) (lam (sort u) (lam (pi #0 (sort u)) (lam #1 (app #1 #0)))))"},
		{"theorem a : Nat := zero.", "(def a () (const Nat) (const zero))"},
		{"theorem a.{u} (A : Sort u) : A -> A := fun (x : A) => x.", "(def a (u) (pi (sort u) (pi #0 #1)) (lam (sort u) (lam #0 #0)))"},
		{"theorem a (x : Nat) : x = x := refl.", "(def a () (pi (const Nat) (app (app (app (const Eq (s 0)) (const Nat)) #0) #0)) (lam (const Nat) (app (app (const refl (s 0)) (const Nat)) #0)))"},
		{"inductive T : Prop.", "(inductive T () 0 (sort 0))"},
		{"inductive T : Type | c : T | d : T -> (Nat -> T) -> T.", "(inductive T () 0 (sort (s 0)) (ctor c (const T)) (ctor d (pi (const T) (pi (pi (const Nat) (const T)) (const T)))))"},
		{"inductive T (x : Nat) : Type | c : T x.", "(inductive T () 1 (pi (const Nat) (sort (s 0))) (ctor c (pi (const Nat) (app (const T) #0))))"},
		{"inductive T {x : Nat} : Type | c : T | d : T -> T.", "(inductive T () 1 (pi (const Nat) (sort (s 0))) (ctor c (pi (const Nat) (app (const T) #0))) (ctor d (pi (const Nat) (pi (app (const T) #0) (app (const T) #1)))))"},
		{"inductive T (n : Nat) {A : Type} : A -> Type | c : forall (a : A) (b : Nat), T b a -> T n a.", ""},
		{"inductive T (n : Nat) {A : Type} : Type | c : A -> T n.", "(inductive T () 2 (pi (const Nat) (pi (sort (s 0)) (sort (s 0)))) (ctor c (pi (const Nat) (pi (sort (s 0)) (pi #0 (app (app (const T) #2) #1))))))"},
		{"inductive T {x : Nat} : Type | c : @T x | d : @T x -> @T x.", "(inductive T () 1 (pi (const Nat) (sort (s 0))) (ctor c (pi (const Nat) (app (const T) #0))) (ctor d (pi (const Nat) (pi (app (const T) #0) (app (const T) #1)))))"},
		{"inductive T {x : Nat} (h : x = zero) : Type | c : T h | d : T h -> T h.", "(inductive T () 2 (pi (const Nat) (pi (app (app (app (const Eq (s 0)) (const Nat)) #0) (const zero)) (sort (s 0)))) (ctor c (pi (const Nat) (pi (app (app (app (const Eq (s 0)) (const Nat)) #0) (const zero)) (app (app (const T) #1) #0)))) (ctor d (pi (const Nat) (pi (app (app (app (const Eq (s 0)) (const Nat)) #0) (const zero)) (pi (app (app (const T) #1) #0) (app (app (const T) #2) #1))))))"},
		{"inductive T.{u, v} (A : Sort u) (B : Sort v) : A -> Prop | c : forall (a : A), B -> T A B a.", "(inductive T (u v) 2 (pi (sort u) (pi (sort v) (pi #1 (sort 0)))) (ctor c (pi (sort u) (pi (sort v) (pi #1 (pi #1 (app (app (app (const T u v) #3) #2) #1)))))))"},
		{"inductive T.{u} : Prop | c : T.", "(inductive T (u) 0 (sort 0) (ctor c (const T u)))"},
		{"inductive T.{u} : Prop | c : T.{u}.", "(inductive T (u) 0 (sort 0) (ctor c (const T u)))"},
	} {
		if c[1] == "" {
			refused(t, c[0], "FPos at 0")
			continue
		}
		becomes(t, c[0], c[1])
	}
}

// Expressions of every kind, as they are written.
func TestExpressions(t *testing.T) {
	for _, c := range [][2]string{
		{"def a : Nat := (fun (x : Nat) => x) zero.", "(def a () (const Nat) (app (lam (const Nat) #0) (const zero)))"},
		{"def a : Nat := let x : Nat := zero in let y : Nat := x in add x y.", "(def a () (const Nat) (let (const Nat) (const zero) (let (const Nat) #0 (app (app (const add) #1) #0))))"},
		{"def a : Nat := (zero : Nat).", "(def a () (const Nat) (const zero))"},
		{"def a : (Nat : Type) := ((succ : Nat -> Nat) (zero : id Nat) : Nat).", "(def a () (const Nat) (app (const succ) (const zero)))"},
		{"def a : Type := forall (x : Nat), (Nat : Type).", "(def a () (sort (s 0)) (pi (const Nat) (const Nat)))"},
		{"def a (x : Nat) : Prop := x = succ x.", "(def a () (pi (const Nat) (sort 0)) (lam (const Nat) (app (app (app (const Eq (s 0)) (const Nat)) #0) (app (const succ) #0))))"},
		{"def a : Nat -> Nat := succ.", "(def a () (pi (const Nat) (const Nat)) (const succ))"},
		{"def a : Nat := add (add zero one) (succ one).", "(def a () (const Nat) (app (app (const add) (app (app (const add) (const zero)) (const one))) (app (const succ) (const one))))"},
		{"def a : Type := (fun (A : Type) (f : A -> Type) => forall (x : A), f x) Nat (fun (n : Nat) => Vec Nat n).",
			"(def a () (sort (s 0)) (app (app (lam (sort (s 0)) (lam (pi #0 (sort (s 0))) (pi #1 (app #1 #0)))) (const Nat)) (lam (const Nat) (app (app (const Vec) (const Nat)) #0))))"},
		{"def a : Nat := (let f : Nat -> Nat := succ in f) zero.", "(def a () (const Nat) (app (let (pi (const Nat) (const Nat)) (const succ) #0) (const zero)))"},
	} {
		becomes(t, c[0], c[1])
	}
}

// Names mean the innermost binder; else a constant; the sign = means Eq, whatever stands around it.
func TestNames(t *testing.T) {
	for _, c := range [][2]string{
		{"def a (x : Nat) (x : Nat) : Nat := x.", "(def a () (pi (const Nat) (pi (const Nat) (const Nat))) (lam (const Nat) (lam (const Nat) #0)))"},
		{"def a (x : Type) (y : x) (x : Nat) : Nat := x.", "(def a () (pi (sort (s 0)) (pi #0 (pi (const Nat) (const Nat)))) (lam (sort (s 0)) (lam #0 (lam (const Nat) #0))))"},
		{"def a (zero : Nat) : Nat := zero.", "(def a () (pi (const Nat) (const Nat)) (lam (const Nat) #0))"},
		{"def a (zero : Nat) : Nat := @zero.", "(def a () (pi (const Nat) (const Nat)) (lam (const Nat) #0))"},
		{"def a : Nat := (fun (Nat : Type) (zero : Nat) => zero) Nat zero.", "(def a () (const Nat) (app (app (lam (sort (s 0)) (lam #0 #0)) (const Nat)) (const zero)))"},
		{"def a (x : Nat) : Nat := let x : Nat := succ x in x.", "(def a () (pi (const Nat) (const Nat)) (lam (const Nat) (let (const Nat) (app (const succ) #0) #0)))"},
		{"def a (x : Nat) : Nat := add ((fun (x : Nat) => x) x) x.", "(def a () (pi (const Nat) (const Nat)) (lam (const Nat) (app (app (const add) (app (lam (const Nat) #0) #0)) #0)))"},
		{"def a (x : Nat) (f : forall (x : Nat), x = x) : x = x := f x.", "(def a () (pi (const Nat) (pi (pi (const Nat) (app (app (app (const Eq (s 0)) (const Nat)) #0) #0)) (app (app (app (const Eq (s 0)) (const Nat)) #1) #1))) (lam (const Nat) (lam (pi (const Nat) (app (app (app (const Eq (s 0)) (const Nat)) #0) #0)) (app #0 #1))))"},
		{"def a (Eq : Nat) : Prop := Eq = Eq.", "(def a () (pi (const Nat) (sort 0)) (lam (const Nat) (app (app (app (const Eq (s 0)) (const Nat)) #0) #0)))"},
		{"def a (Eq : Nat -> Nat -> Nat) : Nat := Eq zero one.", "(def a () (pi (pi (const Nat) (pi (const Nat) (const Nat))) (const Nat)) (lam (pi (const Nat) (pi (const Nat) (const Nat))) (app (app #0 (const zero)) (const one))))"},
		{"inductive T (T : Type) : Type | c : T -> Nat.", ""},
		{"inductive T (A : Type) : Type | c : (fun (T : Type) => A) Nat -> T A.", "(inductive T () 1 (pi (sort (s 0)) (sort (s 0))) (ctor c (pi (sort (s 0)) (pi (app (lam (sort (s 0)) #1) (const Nat)) (app (const T) #1)))))"},
		{"inductive T : Type | zero' : T | c : forall (zero : Nat), zero = zero -> T.", "(inductive T () 0 (sort (s 0)) (ctor zero' (const T)) (ctor c (pi (const Nat) (pi (app (app (app (const Eq (s 0)) (const Nat)) #0) #0) (const T)))))"},
		{"def a (x : Nat -> Nat) : Nat := Nat.rec (fun (n : Nat) => Nat) zero (fun (n : Nat) => x) one.", "(def a () (pi (pi (const Nat) (const Nat)) (const Nat)) (lam (pi (const Nat) (const Nat)) (app (app (app (app (const Nat.rec (s 0)) (lam (const Nat) (const Nat))) (const zero)) (lam (const Nat) #1)) (const one))))"},
	} {
		if c[1] == "" {
			refused(t, c[0], "FForm at 0")
			continue
		}
		becomes(t, c[0], c[1])
	}
}
