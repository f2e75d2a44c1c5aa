package prover_test

import (
	"strings"
	"testing"

	"provekernel/api"
	"provekernel/lib"
	"provekernel/prover"
)

// book: what people may write behind the library, a command a line.
const book = `inductive True : Prop | trivial : True.
inductive Le (m : Nat) : Nat -> Prop | same : Le m m | next : forall {n : Nat}, Le m n -> Le m (succ n).
inductive Vec.{u} (A : Sort (u+1)) : Nat -> Sort (u+1) | vnil : Vec A zero | vcons : forall {n : Nat}, A -> Vec A n -> Vec A (succ n).
inductive Acc.{u} {A : Sort u} (R : A -> A -> Prop) : A -> Prop | acc : forall (x : A), (forall (y : A), R y x -> Acc R y) -> Acc R x.
inductive Sigma.{u, v} {A : Sort (u+1)} (B : A -> Sort (v+1)) : Sort (max (u+1) (v+1)) | pair : forall (a : A), B a -> Sigma B.
inductive W.{u, v} (A : Sort (u+1)) (B : A -> Sort (v+1)) : Sort (max (u+1) (v+1)) | sup : forall (a : A), (B a -> W A B) -> W A B.
inductive Tree.{u} (A : Sort (u+1)) : Sort (u+1) | leaf : Tree A | node : Tree A -> A -> Tree A -> Tree A.
axiom P : Nat -> Prop.
axiom p : forall {n : Nat}, P n.
axiom choose.{u} {A : Sort u} : (A -> False) -> A.
def one : Nat := succ zero.
def id.{u} {A : Sort u} (a : A) : A := a.
def const.{u, v} {A : Sort u} {B : Sort v} (a : A) : B -> A := fun b => a.
def comp.{u, v, w} {A : Sort u} {B : Sort v} {C : Sort w} (f : B -> C) (g : A -> B) : A -> C := fun x => f (g x).
def mul (m n : Nat) : Nat := Nat.rec (fun x => Nat) zero (fun k r => add m r) n.
def fst.{u, v} {A : Sort (u+1)} {B : A -> Sort (v+1)} (s : Sigma B) : A := Sigma.rec A B (fun x => A) (fun a b => a) s.
def snd.{u, v} {A : Sort (u+1)} {B : A -> Sort (v+1)} (s : Sigma B) : B (fst s) := Sigma.rec A B (fun x => B (fst x)) (fun a b => b) s.
def size.{u} {A : Sort (u+1)} (t : Tree A) : Nat := Tree.rec A (fun x => Nat) zero (fun l a r m n => succ (add m n)) t.
def reverse.{u} {A : Sort (u+1)} (l : List A) : List A := List.rec _ (fun x => List A) nil (fun h t r => append r (cons h nil)) l.
def map.{u, v} {A : Sort (u+1)} {B : Sort (v+1)} (f : A -> B) (l : List A) : List B := List.rec _ (fun x => List B) nil (fun h t r => cons (f h) r) l.
def lets : Nat := let x : Nat := one in let f : _ := fun y => add x y in f (f x).
def numbers : List Nat := cons zero (cons one (append nil (cons (add one one) nil))).
def packed : Sigma (Vec Nat) := pair _ (vcons zero vnil).
def claims : Nat := (add (one : Nat) : Nat -> _) (zero : Nat).
theorem four : mul (succ one) (succ one) = add (succ one) (succ one) := refl.
theorem three : length numbers = succ (succ one) := refl.
theorem swap {A B : Prop} (h : And A B) : And B A := And.rec A B (fun x => And B A) (fun a b => both b a) h.
theorem absurd.{u} {A : Sort u} (f : False) : A := False.rec (fun x => A) f.
theorem subst.{u} {A : Sort u} (Q : A -> Prop) {a b : A} (h : a = b) (q : Q a) : Q b := Eq.rec A a (fun x e => Q x) q b h.
theorem nonzero (n : Nat) (h : succ n = zero) : False := Eq.rec _ _ (fun m e => Nat.rec (fun x => Prop) False (fun k r => True) m) trivial _ h.
theorem least : Exists (fun n => forall (m : Nat), add n m = m) := intro zero addZero.
theorem leTwo : Le zero (succ one) := next (next same).
theorem swapped (A B : Prop) : And A B -> And B A by intro h; cases h; constructor 1; exact b; exact a.
theorem either (A B : Prop) : Or A B -> Or B A by intro h; cases h; constructor 2; exact a; constructor 1; assumption.
theorem notNot (A : Prop) : A -> Not (Not A) by intro a f; exact f a.
theorem notNeither (A : Prop) : Not (Not (Or A (Not A))) by intro f; apply f; constructor 2; intro a; apply f; constructor 1; exact a.
theorem nothing.{u} (A : Sort u) : False -> A by intro h; cases h.
theorem succInj (m n : Nat) (h : succ m = succ n) : m = n by apply (cong (Nat.rec (fun x => Nat) zero (fun k r => k)) h).
theorem leTrans (a b c : Nat) (h : Le a b) (g : Le b c) : Le a c by induction g; exact h; apply next; assumption.
theorem leZero (n : Nat) : Le zero n by induction n; constructor 1; constructor 2; assumption.
theorem exchange (A : Type) (R : A -> A -> Prop) : Exists (fun x => forall (y : A), R x y) -> forall (y : A), Exists (fun x => R x y) by intro h y; cases h; exists a; apply b.
theorem mulZero (n : Nat) : mul zero n = zero by induction n; refl; simpl; rewrite addZero; exact ih.
theorem addSwap (a b c : Nat) : add a (add b c) = add b (add a c) by rewrite (symm (addAssoc a b c)); rewrite (addComm a b); rewrite addAssoc; refl.
theorem mulSucc (m n : Nat) : mul (succ m) n = add n (mul m n) by induction n; refl; have k : mul (succ m) (succ a) = add (succ m) (mul (succ m) a); refl; rewrite k; rewrite ih; rewrite addSucc; rewrite addSucc; rewrite (addSwap m a); refl.
theorem mulComm (m n : Nat) : mul m n = mul n m by induction n; rewrite mulZero; refl; rewrite mulSucc; rewrite (symm ih); refl.
theorem mapAppend.{u, v} {A : Sort (u+1)} {B : Sort (v+1)} (f : A -> B) (a b : List A) : map f (append a b) = append (map f a) (map f b) by induction a; refl; exact cong (cons (f a')) ih.
theorem mapLength.{u, v} {A : Sort (u+1)} {B : Sort (v+1)} (f : A -> B) (l : List A) : length (map f l) = length l by induction l; refl; exact cong succ ih.
theorem reverseAppend.{u} {A : Sort (u+1)} (a b : List A) : reverse (append a b) = append (reverse b) (reverse a) by induction a; symm; apply appendNil; apply trans; exact cong (fun (l : List A) => append l (cons a' nil)) ih; apply appendAssoc.
theorem useSymm (a b : Nat) (h : a = b) : b = a by symm; exact h.
theorem useTrans (a b c : Nat) (h : a = b) (k : b = c) : a = c by apply trans; exact h; exact k.
theorem useRewrite (f : Nat -> Nat) (h : forall (x : Nat), f (f x) = x) (a : Nat) : f (f (f (f a))) = a by rewrite h; rewrite h; refl.
theorem useCases (n : Nat) (h : P n) (v : Vec Nat n) (k : P n -> False) : False by cases v; exact k h; apply k; exact h.
theorem eta.{u, v} {A : Sort (u+1)} {B : A -> Sort (v+1)} (s : Sigma B) : s = pair (fst s) (snd s) by cases s; refl.
theorem wellFounded.{u} {A : Sort u} (R : A -> A -> Prop) (S : A -> Prop) (s : forall (x : A), (forall (y : A), R y x -> S y) -> S x) (x : A) (h : Acc R x) : S x by induction h; apply s; exact ih.
theorem toList (n : Nat) (v : Vec Nat n) : List Nat by induction v; exact nil; exact cons b ih.
theorem some : Exists P by exists add one one; exact p.
theorem large (n : Nat) : add n (add n n) = add (add n n) n by symm; apply addAssoc.
`

// lines of the book.
func lines() []string { return strings.Split(strings.TrimSpace(book), "\n") }

// Texts that use the library behind it are accepted, and all holds that comes of it.
func TestBook(t *testing.T) {
	library := len(parsed(t, lib.Text()))
	text := lib.Text() + book
	r := prover.Process(text, 3000)
	if r.Err != nil {
		_, at := api.Code(r.Err)
		t.Fatalf("%s: %d added, %s", shortened(text[at:]), r.Added, shown(r.Err))
	}
	holds(t, "the book", r, 3000, library)
}
