package elab

import "testing"

// What is found, each by one of the ways that the chapter lists.
func TestFound(t *testing.T) {
	for _, c := range [][4]string{
		// an argument's type
		{"", "Nat", "id zero", "(app (app (const id (s 0)) (const Nat)) (const zero))"},
		{"", "Nat -> Nat", "fun x => (fun y => succ y) x", "(lam (const Nat) (app (lam (const Nat) (app (const succ) #0)) #0))"},
		{"", "Prop", "forall (x : _) (y : _), add x y = y", "(pi (const Nat) (pi (const Nat) (app (app (app (const Eq (s 0)) (const Nat)) (app (app (const add) #1) #0)) #0)))"},
		{"", "Nat", "(fun f => f zero) succ", "(app (lam (pi (const Nat) (const Nat)) (app #0 (const zero))) (const succ))"},
		{"axiom f {n m : Nat} (v : Vec Nat n) (w : Vec (Vec Nat n) m) : n = m.", "forall (k : Nat) (v : Vec Nat k) (w : Vec (Vec Nat k) one), k = one", "fun k v w => f v w",
			"(lam (const Nat) (lam (app (app (const Vec) (const Nat)) #0) (lam (app (app (const Vec) (app (app (const Vec) (const Nat)) #1)) (const one)) (app (app (app (app (const f) #2) (const one)) #1) #0))))"},
		// a value's type
		{"", "List Nat", "nil", "(app (const nil 0) (const Nat))"},
		{"", "one = one", "refl", "(app (app (const refl (s 0)) (const Nat)) (const one))"},
		{"", "Nat", "let x : List _ := cons zero nil in zero", "(let (app (const List 0) (const Nat)) (app (app (app (const cons 0) (const Nat)) (const zero)) (app (const nil 0) (const Nat))) (const zero))"},
		{"", "Nat", "let x : List Nat := nil in zero", "(let (app (const List 0) (const Nat)) (app (const nil 0) (const Nat)) (const zero))"},
		{"", "List Nat", "let x : Nat := zero in nil", "(let (const Nat) (const zero) (app (const nil 0) (const Nat)))"},
		// that of an (e : T)
		{"", "Nat", "(succ : Nat -> _) zero", "(app (const succ) (const zero))"},
		{"", "Nat", "(id : Nat -> Nat) zero", "(app (app (const id (s 0)) (const Nat)) (const zero))"},
		{"", "Nat", "(fun x => zero) (nil : List Nat)", "(app (lam (app (const List 0) (const Nat)) (const zero)) (app (const nil 0) (const Nat)))"},
		{"", "Nat", "((fun x y => x) : Nat -> Prop -> Nat) zero (zero = zero)", "(app (app (lam (const Nat) (lam (sort 0) #1)) (const zero)) (app (app (app (const Eq (s 0)) (const Nat)) (const zero)) (const zero)))"},
		// a body's, under binders whose types are known from there
		{"", "Nat -> List Nat", "fun x => nil", "(lam (const Nat) (app (const nil 0) (const Nat)))"},
		{"", "forall (A : Type) (x : A), x = x", "fun A x => refl", "(lam (sort (s 0)) (lam #0 (app (app (const refl (s 0)) #1) #0)))"},
		{"", "forall (A : Prop), A -> Not (Not A)", "fun A a f => f a", "(lam (sort 0) (lam #0 (lam (app (const Not) #1) (app #0 #1))))"},
		{"", "forall (A : Type), id (A -> A)", "fun A x => x", "(lam (sort (s 0)) (lam #0 #0))"},
		{"", "(Nat -> Nat) -> Nat -> Nat", "fun f => fun (x : _) => f (f x)", "(lam (pi (const Nat) (const Nat)) (lam (const Nat) (app #1 (app #1 #0))))"},
		// holes that are applied to different variables
		{"", "(forall (n : Nat), n = n) -> Nat", "fun q => all q", "(lam (pi (const Nat) (app (app (app (const Eq (s 0)) (const Nat)) #0) #0)) (app (app (const all) (lam (const Nat) (app (app (app (const Eq (s 0)) (const Nat)) #0) #0))) #0))"},
		{"", "Nat", "all (fun n => (refl : n = n))", "(app (app (const all) (lam (const Nat) (app (app (app (const Eq (s 0)) (const Nat)) #0) #0))) (lam (const Nat) (app (app (const refl (s 0)) (const Nat)) #0)))"},
		{"axiom q : forall (n : Nat), P n.", "Nat", "all q", "(app (app (const all) (const P)) (const q))"},
		{"axiom f : forall {Q : Nat -> Nat -> Prop}, (forall (m n : Nat), Q n m) -> Nat.", "(forall (a b : Nat), add a b = zero) -> Nat", "fun h => f h",
			"(lam (pi (const Nat) (pi (const Nat) (app (app (app (const Eq (s 0)) (const Nat)) (app (app (const add) #1) #0)) (const zero)))) (app (app (const f) (lam (const Nat) (lam (const Nat) (app (app (app (const Eq (s 0)) (const Nat)) (app (app (const add) #0) #1)) (const zero))))) #0))"},
		{"", "Prop", "forall (A : Type) (f : _), f = (fun (x : A) => x)", "(pi (sort (s 0)) (pi (pi #0 #1) (app (app (app (const Eq (imax (s 0) (s 0))) (pi #1 #2)) #0) (lam #1 #0))))"},
		{"", "Nat", "(fun g => g zero) (fun x => x)", "(app (lam (pi (const Nat) (const Nat)) (app #0 (const zero))) (lam (const Nat) #0))"},
		// what stands for a value, and what has been left open in that
		{"", "one = one", "let n : Nat := _ in (refl : n = one)", "(let (const Nat) (app (const succ) (const zero)) (app (app (const refl (s 0)) (const Nat)) #0))"},
		{"", "one = one", "let n : Nat := succ _ in (refl : n = one)", "(let (const Nat) (app (const succ) (const zero)) (app (app (const refl (s 0)) (const Nat)) #0))"},
		{"", "Vec Nat one", "let n : _ := id _ in (fun (v : Vec Nat n) => (v : Vec Nat one)) (vcons zero vnil)", "(let (const Nat) (app (app (const id (s 0)) (const Nat)) (app (const succ) (const zero))) (app (lam (app (app (const Vec) (const Nat)) #0) #0) (app (app (app (app (const vcons) (const Nat)) (const zero)) (const zero)) (app (const vnil) (const Nat)))))"},
		{"", "one = one", "let n : Nat := _ in let m : Nat := succ n in (refl : m = one)", "(let (const Nat) (const zero) (let (const Nat) (app (const succ) #0) (app (app (const refl (s 0)) (const Nat)) #0)))"},
		{"", "one = one", "(let x : Nat := one in (fun (h : x = x) => h)) refl", "(app (let (const Nat) (const one) (lam (app (app (app (const Eq (s 0)) (const Nat)) #0) #0) #0)) (app (app (const refl (s 0)) (const Nat)) (const one)))"},
		{"", "Nat", "(let f : _ := succ in f) zero", "(app (let (pi (const Nat) (const Nat)) (const succ) #0) (const zero))"},
		// eta
		{"axiom R : (Nat -> Nat) -> Prop. axiom F : Nat -> Nat -> Nat. axiom f {n : Nat} (h : R (fun x => F n x)) : Nat.", "R (F one) -> Nat", "fun h => f h", "(lam (app (const R) (app (const F) (const one))) (app (app (const f) (const one)) #0))"},
		{"axiom R : (Nat -> Nat) -> Prop. axiom F : Nat -> Nat -> Nat. axiom f {n : Nat} (h : R (F n)) : Nat.", "R (fun x => F one x) -> Nat", "fun h => f h", "(lam (app (const R) (lam (const Nat) (app (app (const F) (const one)) #0))) (app (app (const f) (const one)) #0))"},
		// what a hole may not have vanishes by steps
		{"axiom k {A : Type} (f : Nat -> A) : A.", "(forall (n : Nat), (fun (m : Nat) => Nat) n) -> Nat", "fun v => k v", "(lam (pi (const Nat) (app (lam (const Nat) (const Nat)) #0)) (app (app (const k) (const Nat)) #0))"},
		{"axiom k {A : Type} (f : Nat -> A) : A.", "Nat", "(fun x => x) (k (fun n => (n : (fun (m : Nat) => Nat) n)))", "(app (lam (const Nat) #0) (app (app (const k) (const Nat)) (lam (const Nat) #0)))"},
		{"axiom R : Nat -> Nat -> Prop. axiom q : forall (n : Nat), R n n.", "Nat", "all q", "(app (app (const all) (lam (const Nat) (app (app (const R) #0) #0))) (const q))"},
		{"axiom R : Nat -> Nat -> Prop.", "forall (m : Nat), (forall (n : Nat), R m n) -> Nat", "fun m q => all q", "(lam (const Nat) (lam (pi (const Nat) (app (app (const R) #1) #0)) (app (app (const all) (app (const R) #1)) #0)))"},
		{"axiom R : (Nat -> Nat) -> Nat -> Prop.", "(forall (n : Nat), R (fun k => add k n) n) -> Nat", "fun q => all q", "(lam (pi (const Nat) (app (app (const R) (lam (const Nat) (app (app (const add) #0) #1))) #0)) (app (app (const all) (lam (const Nat) (app (app (const R) (lam (const Nat) (app (app (const add) #0) #1))) #0))) #0))"},
		{"axiom k {A : Type} (f : Nat -> A) : A.", "Nat -> Nat", "k add", "(app (app (const k) (pi (const Nat) (const Nat))) (const add))"},
		{"axiom k {A : Type} (f : Nat -> A) : A.", "Nat", "k add zero", "(app (app (app (const k) (pi (const Nat) (const Nat))) (const add)) (const zero))"},
		{"", "forall (A : Type) (a : A), a = a", "fun A a => let f : A -> A := fun x => x in (fun (h : f = (fun (x : A) => x)) => (refl : f a = a)) refl", "(lam (sort (s 0)) (lam #0 (let (pi #1 #2) (lam #1 #0) (app (lam (app (app (app (const Eq (imax (s 0) (s 0))) (pi #2 #3)) #0) (lam #2 #0)) (app (app (const refl (s 0)) #3) (app #1 #2))) (app (app (const refl (imax (s 0) (s 0))) (pi #2 #3)) #0)))))"},
		// same heads first
		{"axiom f {n : Nat} (h : P (any n)) : P n.", "P (any one) -> P one", "fun h => f h", "(lam (app (const P) (app (const any) (const one))) (app (app (const f) (const one)) #0))"},
		{"axiom f {n : Nat} (h : P (any n)) : Nat.", "P (any one) -> Nat", "fun h => f h", "(lam (app (const P) (app (const any) (const one))) (app (app (const f) (const one)) #0))"},
		{"axiom f {m n : Nat} (h : P (add m n)) : Nat.", "forall (a : Nat), P (add a one) -> Nat", "fun a h => f h", "(lam (const Nat) (lam (app (const P) (app (app (const add) #0) (const one))) (app (app (app (const f) #1) (const one)) #0)))"},
		// where that does not fit, and where heads differ: weak head normal forms
		{"def same (m n : Nat) : Nat := m. axiom f {n : Nat} (h : P (same n zero)) : Nat.", "forall (a : Nat), P (same a one) -> Nat", "fun a h => f h", "(lam (const Nat) (lam (app (const P) (app (app (const same) #0) (const one))) (app (app (const f) #1) #0)))"},
		{"axiom f {n : Nat} (h : P (succ n)) : Nat.", "forall (a : Nat), P (add a one) -> Nat", "fun a h => f h", "(lam (const Nat) (lam (app (const P) (app (app (const add) #0) (const one))) (app (app (const f) (app (app (app (app (const Nat.rec (s 0)) (lam (const Nat) (const Nat))) #1) (lam (const Nat) (lam (app (lam (const Nat) (const Nat)) #0) (app (const succ) #0)))) (const zero))) #0)))"},
		{"", "Not (zero = zero) -> Not (zero = zero)", "fun h e => h e", "(lam (app (const Not) (app (app (app (const Eq (s 0)) (const Nat)) (const zero)) (const zero))) (lam (app (app (app (const Eq (s 0)) (const Nat)) (const zero)) (const zero)) (app #1 #0)))"},
		{"", "P (add one one)", "(p : P (succ _))", "(app (const p) (app (const succ) (app (app (app (app (const Nat.rec (s 0)) (lam (const Nat) (const Nat))) (const one)) (lam (const Nat) (lam (app (lam (const Nat) (const Nat)) #0) (app (const succ) #0)))) (const zero))))"},
		{"def plus (m n : Nat) : Nat := Nat.rec (fun x => Nat) m (fun k r => succ r) n. axiom f {m n : Nat} (h : P (add m n)) : Nat.", "forall (a b : Nat), P (plus a b) -> Nat", "fun a b h => f h", "(lam (const Nat) (lam (const Nat) (lam (app (const P) (app (app (const plus) #1) #0)) (app (app (app (const f) #2) #1) #0))))"},
		// where the type that is told leads astray, the arguments say it
		{"axiom f {n : Nat} (v : Vec Nat n) : P (any n).", "Vec Nat zero -> P (any one)", "fun v => f v", "(lam (app (app (const Vec) (const Nat)) (const zero)) (app (app (const f) (const zero)) #0))"},
		// what waits
		{"axiom f {Q : Nat -> Prop} (n : Nat) (h : Q n) (g : Exists Q) : Nat.", "Exists P -> Nat", "fun e => f one p e", "(lam (app (app (const Exists (s 0)) (const Nat)) (const P)) (app (app (app (app (const f) (const P)) (const one)) (app (const p) (const one))) #0))"},
		{"axiom f {n : Nat} (h : P (add zero n)) (v : Vec Nat n) : Nat.", "P one -> Vec Nat one -> Nat", "fun h v => f h v", "(lam (app (const P) (const one)) (lam (app (app (const Vec) (const Nat)) (const one)) (app (app (app (const f) (const one)) #1) #0)))"},
		{"", "Exists (fun x => x = zero)", "intro _ refl", "(app (app (app (app (const intro (s 0)) (const Nat)) (lam (const Nat) (app (app (app (const Eq (s 0)) (const Nat)) #0) (const zero)))) (const zero)) (app (app (const refl (s 0)) (const Nat)) (const zero)))"},
		{"axiom f {A : Type} {F : A -> Type} (y : forall (x : A), F x) : A.", "(forall (x : Nat), Vec Nat x) -> Nat", "f", "(app (app (const f) (const Nat)) (app (const Vec) (const Nat)))"},
	} {
		value(t, c[0], c[1], c[2], c[3])
	}
}

// What waits in the end, and could be more than one thing, is what comes to mind first.
func TestGuessed(t *testing.T) {
	for _, c := range [][4]string{
		{"", "Nat", "(fun x y => x) zero one", "(app (app (lam (const Nat) (lam (const Nat) #1)) (const zero)) (const one))"},
		{"", "Nat", "(fun x y z => y) zero one nil.{0}", ""},
		{"", "Nat", "(fun x y z => x) zero one (refl : one = one)", "(app (app (app (lam (const Nat) (lam (const Nat) (lam (app (app (app (const Eq (s 0)) (const Nat)) (const one)) (const one)) #2))) (const zero)) (const one)) (app (app (const refl (s 0)) (const Nat)) (const one)))"},
		{"axiom f {A : Type} : A.", "Nat", "f zero", "(app (app (const f) (pi (const Nat) (const Nat))) (const zero))"},
		{"axiom f {F : Nat -> Type} (a : F zero) (h : F zero -> F one) (b : F one) : Nat.", "Nat", "f zero id one", "(app (app (app (app (const f) (lam (const Nat) (const Nat))) (const zero)) (app (const id (s 0)) (app (lam (const Nat) (const Nat)) (const zero)))) (const one))"},
		{"axiom f {F : Nat -> Nat -> Nat -> Type} (n : Nat) (a : F n one n) : Nat.", "forall (x : Nat), Vec Nat x -> Nat", "fun x v => f x v", "(lam (const Nat) (lam (app (app (const Vec) (const Nat)) #0) (app (app (app (const f) (lam (const Nat) (lam (const Nat) (app (const Vec) (const Nat))))) #1) #0)))"},
		{"axiom f {Q : Nat -> Prop} (n : Nat) (h : Q n) : Nat.", "Nat", "f zero (p : P zero)", "(app (app (app (const f) (const P)) (const zero)) (app (const p) (const zero)))"},
		{"axiom f {Q : Nat -> Prop} (n : Nat) (h : Q n) : Nat.", "forall (x : Nat), P x -> Nat", "fun x h => f x h", "(lam (const Nat) (lam (app (const P) #0) (app (app (app (const f) (const P)) #1) #0)))"},
		{"", "forall (A B : Prop), And A B -> And B A", "fun A B h => And.rec _ _ _ (fun a b => both b a) h", "(lam (sort 0) (lam (sort 0) (lam (app (app (const And) #1) #0) (app (app (app (app (app (const And.rec 0) #2) #1) (lam (app (app (const And) #2) #1) (app (app (const And) #2) #3))) (lam #2 (lam #2 (app (app (app (app (const both) #3) #4) #0) #1)))) #0))))"},
	} {
		if c[3] == "" {
			refused(t, c[0]+" def a : "+c[1]+" := "+c[2]+".", "FStuck at 25")
			continue
		}
		value(t, c[0], c[1], c[2], c[3])
	}
}

// Levels that are not given are found: as one that must be the same, as one of which a successor is told.
func TestFoundLevels(t *testing.T) {
	more := "inductive W.{u, v} (A : Sort (u+1)) (B : A -> Sort (v+1)) : Sort (max (u+1) (v+1)) | sup : forall (a : A), (B a -> W A B) -> W A B. "
	for _, c := range [][2]string{
		{"def a : Type := id Nat.", "(def a () (sort (s 0)) (app (app (const id (s (s 0))) (sort (s 0))) (const Nat)))"},
		{"def a.{u} (A : Sort u) (x : A) : A := id x.", "(def a (u) (pi (sort u) (pi #0 #1)) (lam (sort u) (lam #0 (app (app (const id u) #1) #0))))"},
		{"def a.{u, v} (A : Sort u) (B : Sort v) : Sort (imax u v) := id (A -> B).", "(def a (u v) (pi (sort u) (pi (sort v) (sort (imax u v)))) (lam (sort u) (lam (sort v) (app (app (const id (s (imax u v))) (sort (imax u v))) (pi #1 #1)))))"},
		{"def a : Type := List Nat.", "(def a () (sort (s 0)) (app (const List 0) (const Nat)))"},
		{"def a : Type 1 := List Type.", "(def a () (sort (s (s 0))) (app (const List (s 0)) (sort (s 0))))"},
		{"def a : Type := List (List (Nat -> Nat)).", "(def a () (sort (s 0)) (app (const List 0) (app (const List 0) (pi (const Nat) (const Nat)))))"},
		{"def a.{u} (A : Sort (u+1)) : Sort (u+1) := List A.", "(def a (u) (pi (sort (s u)) (sort (s u))) (lam (sort (s u)) (app (const List u) #0)))"},
		{"def a.{u} (A : Sort (u+1)) : Sort (u+1) := List (A -> A).", "(def a (u) (pi (sort (s u)) (sort (s u))) (lam (sort (s u)) (app (const List u) (pi #0 #1))))"},
		{"def a : Prop := high Type.", "(def a () (sort 0) (app (const high 0) (sort (s 0))))"},
		{"def a.{u} (A : Sort (u+3)) : Prop := high A.", "(def a (u) (pi (sort (s (s (s u)))) (sort 0)) (lam (sort (s (s (s u)))) (app (const high (s u)) #0)))"},
		{"def a : Prop := two Nat Type Type.", "(def a () (sort 0) (app (app (app (const two (s 0) (s (s 0))) (const Nat)) (sort (s 0))) (sort (s 0))))"},
		{"def a : Nat := id.{1} zero.", "(def a () (const Nat) (app (app (const id (s 0)) (const Nat)) (const zero)))"},
		{"def a : Nat := @id.{1} _ zero.", "(def a () (const Nat) (app (app (const id (s 0)) (const Nat)) (const zero)))"},
		{"def a.{u} : Sort (u+1) := id.{u+2} (Sort u).", "(def a (u) (sort (s u)) (app (app (const id (s (s u))) (sort (s u))) (sort u)))"},
		{"theorem a : zero = zero -> zero = zero := fun h => Eq.rec Nat zero (fun x e => x = zero) refl zero h.", "(def a () (pi (app (app (app (const Eq (s 0)) (const Nat)) (const zero)) (const zero)) (app (app (app (const Eq (s 0)) (const Nat)) (const zero)) (const zero))) (lam (app (app (app (const Eq (s 0)) (const Nat)) (const zero)) (const zero)) (app (app (app (app (app (app (const Eq.rec 0 (s 0)) (const Nat)) (const zero)) (lam (const Nat) (lam (app (app (app (const Eq (s 0)) (const Nat)) (const zero)) #0) (app (app (app (const Eq (s 0)) (const Nat)) #1) (const zero))))) (app (app (const refl (s 0)) (const Nat)) (const zero))) (const zero)) #0)))"},
		{"def a : Type 1 := List (W Type (fun x => Nat)).", "(def a () (sort (s (s 0))) (app (const List (s 0)) (app (app (const W (s 0) 0) (sort (s 0))) (lam (sort (s 0)) (const Nat)))))"},
		{"def a.{u, v} (A : Sort (u+1)) (B : Sort (v+1)) : Sort (imax (u+1) (v+1)) := List (A -> B).", "(def a (u v) (pi (sort (s u)) (pi (sort (s v)) (sort (imax (s u) (s v))))) (lam (sort (s u)) (lam (sort (s v)) (app (const List (max u v)) (pi #1 #1)))))"},
		{"axiom f.{u} (A : Sort u) : Prop. axiom a.{u} (A : Sort (max 0 (u+1))) : f (List A).", "(axiom a (u) (pi (sort (max 0 (s u))) (app (const f (s u)) (app (const List u) #0))))"},
		{"axiom f.{u} (A : Sort u) : Prop. axiom a.{u} (A : Sort (max (u+1) 0)) : f (List A).", "(axiom a (u) (pi (sort (max (s u) 0)) (app (const f (s u)) (app (const List u) #0))))"},
		{"axiom f.{u} (A : Sort u) : Prop. axiom a.{u} (A : Sort (imax 0 (max (u+1) (u+1)))) : f (List A).", "(axiom a (u) (pi (sort (imax 0 (max (s u) (s u)))) (app (const f (s u)) (app (const List u) #0))))"},
		{"axiom f.{u} (A : Sort u) : Prop. axiom a.{u, v} (A : Sort (imax (v+1) (max (u+2) (u+1)))) : f (List A).", "(axiom a (u v) (pi (sort (imax (s v) (max (s (s u)) (s u)))) (app (const f (s (max v (max (s u) u)))) (app (const List (max v (max (s u) u))) #0))))"},
		{"axiom f.{u, v} (A : Sort (max u v)) : Prop. def a (A : Prop) : Prop := f A.", "(def a () (pi (sort 0) (sort 0)) (lam (sort 0) (app (const f 0 0) #0)))"},
		{"axiom f.{u, v} (A : Sort (imax u v)) (B : Sort u) : Prop. def a (A : Prop) : Prop := f A Nat.", "(def a () (pi (sort 0) (sort 0)) (lam (sort 0) (app (app (const f (s 0) 0) #0) (const Nat))))"},
		{"axiom f.{u} (A : Sort u) : Prop. axiom a : forall (A : Prop), f A -> f (A -> A) -> f (forall (B : Prop), B).", "(axiom a () (pi (sort 0) (pi (app (const f 0) #0) (pi (app (const f (imax 0 0)) (pi #1 #2)) (app (const f (imax (s 0) 0)) (pi (sort 0) #0))))))"},
	} {
		becomes(t, more+c[0], c[1])
	}
}

// Holes in the types of binders, of commands, of families' parameters are found by what stands behind them.
func TestFoundInTypes(t *testing.T) {
	for _, c := range [][2]string{
		{"axiom a : forall (x : _), x = zero.", "(axiom a () (pi (const Nat) (app (app (app (const Eq (s 0)) (const Nat)) #0) (const zero))))"},
		{"axiom a (x : _) : x = zero.", "(axiom a () (pi (const Nat) (app (app (app (const Eq (s 0)) (const Nat)) #0) (const zero))))"},
		{"def a (x : _) : Nat := succ x.", "(def a () (pi (const Nat) (const Nat)) (lam (const Nat) (app (const succ) #0)))"},
		{"def a : _ := zero.", "(def a () (const Nat) (const zero))"},
		{"def a : _ := fun (x : Nat) => x.", "(def a () (pi (const Nat) (const Nat)) (lam (const Nat) #0))"},
		{"def a : Vec Nat _ := vcons zero vnil.", "(def a () (app (app (const Vec) (const Nat)) (app (const succ) (const zero))) (app (app (app (app (const vcons) (const Nat)) (const zero)) (const zero)) (app (const vnil) (const Nat))))"},
		{"inductive T (n : _) : Type | c : n = zero -> T n.", "(inductive T () 1 (pi (const Nat) (sort (s 0))) (ctor c (pi (const Nat) (pi (app (app (app (const Eq (s 0)) (const Nat)) #0) (const zero)) (app (const T) #1)))))"},
		{"inductive T (A : Type) : Nat -> Type | c : forall (n : _), T A n | d : forall {n : _}, T A n -> T A (succ n).", "(inductive T () 1 (pi (sort (s 0)) (pi (const Nat) (sort (s 0)))) (ctor c (pi (sort (s 0)) (pi (const Nat) (app (app (const T) #1) #0)))) (ctor d (pi (sort (s 0)) (pi (const Nat) (pi (app (app (const T) #1) #0) (app (app (const T) #2) (app (const succ) #1)))))))"},
		{"axiom a : let x : _ := zero in x = x.", "(axiom a () (let (const Nat) (const zero) (app (app (app (const Eq (s 0)) (const Nat)) #0) #0)))"},
		{"theorem a : let x : Nat := zero in x = zero := refl.", "(def a () (let (const Nat) (const zero) (app (app (app (const Eq (s 0)) (const Nat)) #0) (const zero))) (app (app (const refl (s 0)) (const Nat)) (const zero)))"},
	} {
		becomes(t, c[0], c[1])
	}
}
