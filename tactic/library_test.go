package tactic_test

import (
	"testing"

	"provekernel/elab"
	"provekernel/term"
)

// library: proofs as people write them, behind the world.
const library = `theorem addZero : forall (n : Nat), add zero n = n by intro n; induction n; refl; exact cong succ ih.
theorem addSucc : forall (m n : Nat), add (succ m) n = succ (add m n) by intro m n; induction n; refl; exact cong succ ih.
theorem addComm : forall (m n : Nat), add m n = add n m by intro m n; induction n; symm; exact addZero m; rewrite (addSucc a m); exact cong succ ih.
theorem addCommOnceMore : forall (m n : Nat), add m n = add n m by intro m n; induction n; rewrite addZero; refl; rewrite addSucc; rewrite (symmetry ih); refl.
theorem addAssoc : forall (a b c : Nat), add (add a b) c = add a (add b c) by intro a b c; induction c; refl; simpl; exact cong succ ih.
theorem addAssocOnceMore : forall (a b c : Nat), add (add a b) c = add a (add b c) by intro a b c; induction c; refl; apply (cong succ ih).
def append.{u} {A : Sort (u+1)} (a b : List A) : List A := List.rec A (fun x => List A) b (fun h t r => cons h r) a.
def length.{u} {A : Sort (u+1)} (a : List A) : Nat := List.rec _ (fun x => Nat) zero (fun h t r => succ r) a.
theorem appendNil.{u} {A : Sort (u+1)} (a : List A) : append a nil = a by induction a; refl; exact cong (cons a') ih.
theorem appendAssoc.{u} {A : Sort (u+1)} (a b c : List A) : append (append a b) c = append a (append b c) by induction a; refl; exact cong (cons a') ih.
theorem lengthAppend.{u} {A : Sort (u+1)} (a b : List A) : length (append a b) = add (length a) (length b) by induction a; symm; apply addZero; simpl; apply trans; exact cong succ ih; symm; apply addSucc.
theorem lengthOnceMore.{u} {A : Sort (u+1)} (a b : List A) : length (append a b) = add (length a) (length b) by induction a; symm; apply addZero; apply trans; exact cong succ ih; symm; apply addSucc.
theorem lengthByRewriting.{u} {A : Sort (u+1)} (a b : List A) : length (append a b) = add (length a) (length b) by induction a; rewrite addZero; refl; rewrite (addSucc (length b') (length b)); rewrite (symmetry ih); refl.
theorem nonzero (n : Nat) (h : succ n = zero) : False by have k : Nat.rec (fun x => Prop) False (fun k r => True) (succ n); exact trivial; have g : forall (m : Nat), succ n = m -> Nat.rec (fun x => Prop) False (fun k r => True) m; intro m e; cases e; exact trivial; exact g zero h.
theorem succInj (m n : Nat) (h : succ m = succ n) : m = n by apply (cong (Nat.rec (fun x => Nat) zero (fun k r => k)) h).
theorem leTrans (a b c : Nat) (h : Le a b) (g : Le b c) : Le a c by induction g; exact h; apply next; assumption.
theorem leZero (n : Nat) : Le zero n by induction n; constructor 1; constructor 2; assumption.
theorem leSucc (m n : Nat) (h : Le m n) : Le (succ m) (succ n) by induction h; constructor 1; constructor 2; exact ih.
theorem notNeither (A : Prop) : Not (Not (Or A (Not A))) by intro f; apply f; constructor 2; intro a; apply f; constructor 1; exact a.
theorem neither (A B : Prop) : Not (Or A B) -> And (Not A) (Not B) by intro f; constructor 1; intro a; apply f; constructor 1; exact a; intro b; apply f; constructor 2; exact b.
theorem exchange (A : Type) (R : A -> A -> Prop) : Exists (fun x => forall (y : A), R x y) -> forall (y : A), Exists (fun x => R x y) by intro h y; cases h; exists a; apply b.
def mul (m n : Nat) : Nat := Nat.rec (fun x => Nat) zero (fun k r => add m r) n.
theorem mulZero (n : Nat) : mul zero n = zero by induction n; refl; simpl; rewrite addZero; exact ih.
theorem mulZeroOnceMore (n : Nat) : mul zero n = zero by induction n; refl; apply trans; apply addZero; exact ih.
theorem addSwap (a b c : Nat) : add a (add b c) = add b (add a c) by rewrite (symmetry (addAssoc a b c)); rewrite (addComm a b); rewrite addAssoc; refl.
theorem mulSucc (m n : Nat) : mul (succ m) n = add n (mul m n) by induction n; refl; have k : mul (succ m) (succ a) = add (succ m) (mul (succ m) a); refl; rewrite k; rewrite ih; rewrite addSucc; rewrite addSucc; rewrite (addSwap m a); refl.
theorem mulComm (m n : Nat) : mul m n = mul n m by induction n; rewrite mulZero; refl; rewrite mulSucc; rewrite (symmetry ih); refl.
`

// libraryState is a state that knows the world and the library.
func libraryState(t *testing.T) *elab.State {
	t.Helper()
	s := worldState(t)
	for _, c := range parsed(t, library) {
		if err := s.Run(c, 3000); err != nil {
			t.Fatalf("%s: %s", c.Name, shown(err))
		}
	}
	return s
}

// The library is added; the kernel and the small checker find right what it becomes; types are what the text says.
func TestLibrary(t *testing.T) {
	s := libraryState(t)
	isRight(t, "the library", s)
	for name, want := range map[string]string{
		"symmetry":     "(pi (sort u) (pi #0 (pi #1 (pi (app (app (app (const Eq u) #2) #1) #0) (app (app (app (const Eq u) #3) #1) #2)))))",
		"trans":        "(pi (sort u) (pi #0 (pi #1 (pi #2 (pi (app (app (app (const Eq u) #3) #2) #1) (pi (app (app (app (const Eq u) #4) #2) #1) (app (app (app (const Eq u) #5) #4) #2)))))))",
		"cong":         "(pi (sort u) (pi (sort v) (pi (pi #1 #1) (pi #2 (pi #3 (pi (app (app (app (const Eq u) #4) #1) #0) (app (app (app (const Eq v) #4) (app #3 #2)) (app #3 #1))))))))",
		"addZero":      "(pi (const Nat) (app (app (app (const Eq (s 0)) (const Nat)) (app (app (const add) (const zero)) #0)) #0))",
		"addSucc":      "(pi (const Nat) (pi (const Nat) (app (app (app (const Eq (s 0)) (const Nat)) (app (app (const add) (app (const succ) #1)) #0)) (app (const succ) (app (app (const add) #1) #0)))))",
		"addComm":      "(pi (const Nat) (pi (const Nat) (app (app (app (const Eq (s 0)) (const Nat)) (app (app (const add) #1) #0)) (app (app (const add) #0) #1))))",
		"addAssoc":     "(pi (const Nat) (pi (const Nat) (pi (const Nat) (app (app (app (const Eq (s 0)) (const Nat)) (app (app (const add) (app (app (const add) #2) #1)) #0)) (app (app (const add) #2) (app (app (const add) #1) #0))))))",
		"appendNil":    "(pi (sort (s u)) (pi (app (const List u) #0) (app (app (app (const Eq (s u)) (app (const List u) #1)) (app (app (app (const append u) #1) #0) (app (const nil u) #1))) #0)))",
		"lengthAppend": "(pi (sort (s u)) (pi (app (const List u) #0) (pi (app (const List u) #1) (app (app (app (const Eq (s 0)) (const Nat)) (app (app (const length u) #2) (app (app (app (const append u) #2) #1) #0))) (app (app (const add) (app (app (const length u) #2) #1)) (app (app (const length u) #2) #0))))))",
	} {
		if _, got, ok := s.Env().Type(name); !ok || term.Print(got) != want {
			t.Errorf("%s : %s, want %s", name, term.Print(got), want)
		}
	}
}

// The example of the document.
func TestExample(t *testing.T) {
	s := emptyState(t, "inductive Eq.{u} {A : Sort u} (a : A) : A -> Prop | refl : Eq a a. inductive Nat : Type | zero : Nat | succ : Nat -> Nat. "+
		"def add (m n : Nat) : Nat := Nat.rec (fun x => Nat) m (fun k r => succ r) n. theorem cong {A B : Type} (f : A -> B) {a b : A} : a = b -> f a = f b by intro h; rewrite h; refl. "+
		"theorem zeroAdd : forall (n : Nat), add zero n = n by intro n; induction n; refl; exact cong succ ih.")
	if n := len(s.Env().Decls()); n != 5 {
		t.Errorf("there are %d declarations", n)
	}
	isRight(t, "the example", s)
}
