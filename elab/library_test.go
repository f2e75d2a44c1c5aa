package elab

import (
	"strings"
	"testing"

	"provekernel/api"
	"provekernel/file"
	"provekernel/kernel"
	"provekernel/reduce"
	"provekernel/small"
	"provekernel/term"
)

// library: proofs as people write them, behind the world.
const library = `theorem symm.{u} {A : Sort u} {a b : A} (h : a = b) : b = a := Eq.rec A a (fun x e => x = a) refl b h.
theorem trans.{u} {A : Sort u} {a b c : A} (h : a = b) (g : b = c) : a = c := Eq.rec _ _ (fun x e => a = x) h _ g.
theorem cong.{u, v} {A : Sort u} {B : Sort v} (f : A -> B) {a b : A} (h : a = b) : f a = f b := Eq.rec _ _ (fun x e => f a = f x) refl _ h.
theorem addZero : forall (n : Nat), add zero n = n := fun n => Nat.rec (fun m => add zero m = m) refl (fun k ih => cong succ ih) n.
theorem addSucc (m n : Nat) : add (succ m) n = succ (add m n) := Nat.rec (fun k => add (succ m) k = succ (add m k)) refl (fun k ih => cong succ ih) n.
theorem addComm (m n : Nat) : add m n = add n m := Nat.rec (fun k => add m k = add k m) (symm (addZero m)) (fun k ih => trans (cong succ ih) (symm (addSucc k m))) n.
theorem addAssoc (a b c : Nat) : add (add a b) c = add a (add b c) := Nat.rec (fun k => add (add a b) k = add a (add b k)) refl (fun k ih => cong succ ih) c.
def append.{u} {A : Sort (u+1)} (a b : List A) : List A := List.rec A (fun x => List A) b (fun h t r => cons h r) a.
def length.{u} {A : Sort (u+1)} (a : List A) : Nat := List.rec _ (fun x => Nat) zero (fun h t r => succ r) a.
theorem appendNil.{u} {A : Sort (u+1)} (a : List A) : append a nil = a := List.rec _ (fun x => append x nil = x) refl (fun h t ih => cong (cons h) ih) a.
theorem appendAssoc.{u} {A : Sort (u+1)} (a b c : List A) : append (append a b) c = append a (append b c) := List.rec _ (fun x => append (append x b) c = append x (append b c)) refl (fun h t ih => cong (cons h) ih) a.
theorem swap {A B : Prop} (h : And A B) : And B A := And.rec A B (fun x => And B A) (fun a b => both b a) h.
theorem absurd.{u} {A : Sort u} (f : False) : A := False.rec (fun x => A) f.
theorem nonzero (n : Nat) (h : succ n = zero) : False := Eq.rec _ _ (fun m e => Nat.rec (fun x => Prop) False (fun k r => zero = zero) m) refl _ h.
theorem least : Exists (fun n => forall (m : Nat), add n m = m) := intro zero addZero.
inductive Le (m : Nat) : Nat -> Prop | same : Le m m | next : forall {n : Nat}, Le m n -> Le m (succ n).
theorem leTrans {a b c : Nat} (h : Le a b) (g : Le b c) : Le a c := Le.rec b (fun n x => Le a n) h (fun n l ih => next ih) c g.
theorem leOne : Le zero (succ one) := next (next same).
inductive Acc.{u} {A : Sort u} (R : A -> A -> Prop) : A -> Prop | acc : forall (x : A), (forall (y : A), R y x -> Acc R y) -> Acc R x.
inductive W.{u, v} (A : Sort (u+1)) (B : A -> Sort (v+1)) : Sort (max (u+1) (v+1)) | sup : forall (a : A), (B a -> W A B) -> W A B.
inductive Sigma.{u, v} {A : Sort (u+1)} (B : A -> Sort (v+1)) : Sort (max (u+1) (v+1)) | pair : forall (a : A), B a -> Sigma B.
def fst.{u, v} {A : Sort (u+1)} {B : A -> Sort (v+1)} (s : Sigma B) : A := Sigma.rec A B (fun x => A) (fun a b => a) s.
def snd.{u, v} {A : Sort (u+1)} {B : A -> Sort (v+1)} (s : Sigma B) : B (fst s) := Sigma.rec A B (fun x => B (fst x)) (fun a b => b) s.
def packed : Sigma (Vec Nat) := pair _ (vcons zero vnil).
def mul (m n : Nat) : Nat := Nat.rec (fun x => Nat) zero (fun k r => add m r) n.
theorem four : mul (succ one) (succ one) = add (succ one) (succ one) := refl.
def lets : Nat := let x : Nat := one in let f : _ := fun y => add x y in f (f x).
`

// libraryState is a state that knows the world and the library.
func libraryState(t *testing.T) *State {
	t.Helper()
	s := worldState(t)
	for _, c := range parsed(t, library) {
		if err := s.Run(c, 3000); err != nil {
			t.Fatalf("%s: %s", c.Name, shown(err, c.At))
		}
	}
	return s
}

// The library is added; the kernel and the small checker find right what is; its types are what they must be.
func TestLibrary(t *testing.T) {
	s := libraryState(t)
	text := kernel.Export(s.Env())
	want := len(parsed(t, world+library))
	if _, n, err := kernel.File(text, 3000); n != want || err != nil {
		t.Errorf("the kernel finds %d right, %s", n, shown(err, 0))
	}
	if n, err := small.Check(text, 3000); n != want || err != nil {
		t.Errorf("the small checker finds %d right, %s", n, shown(err, 0))
	}
	for name, typ := range map[string]string{
		"symm":      "(pi (sort u) (pi #0 (pi #1 (pi (app (app (app (const Eq u) #2) #1) #0) (app (app (app (const Eq u) #3) #1) #2)))))",
		"trans":     "(pi (sort u) (pi #0 (pi #1 (pi #2 (pi (app (app (app (const Eq u) #3) #2) #1) (pi (app (app (app (const Eq u) #4) #2) #1) (app (app (app (const Eq u) #5) #4) #2)))))))",
		"cong":      "(pi (sort u) (pi (sort v) (pi (pi #1 #1) (pi #2 (pi #3 (pi (app (app (app (const Eq u) #4) #1) #0) (app (app (app (const Eq v) #4) (app #3 #2)) (app #3 #1))))))))",
		"addZero":   "(pi (const Nat) (app (app (app (const Eq (s 0)) (const Nat)) (app (app (const add) (const zero)) #0)) #0))",
		"appendNil": "(pi (sort (s u)) (pi (app (const List u) #0) (app (app (app (const Eq (s u)) (app (const List u) #1)) (app (app (app (const append u) #1) #0) (app (const nil u) #1))) #0)))",
		"Sigma":     "(pi (sort (s u)) (pi (pi #0 (sort (s v))) (sort (max (s u) (s v)))))",
		"packed":    "(app (app (const Sigma 0 0) (const Nat)) (app (const Vec) (const Nat)))",
	} {
		_, got, ok := s.Env().Type(name)
		if !ok || term.Print(got) != typ {
			t.Errorf("%s : %s, want %s", name, term.Print(got), typ)
		}
	}
}

// declarations of an environment, as texts.
func declarations(e *reduce.Env) []string {
	return strings.SplitAfter(strings.TrimSuffix(kernel.Export(e), "\n"), "\n")
}

// declarationOf is the declaration of a text; false: it is none.
func declarationOf(text string) (api.Decl, bool) {
	ds, err := file.Parse(text)
	if err != nil || len(ds) != 1 {
		return api.Decl{}, false
	}
	return ds[0], true
}
