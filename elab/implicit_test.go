package elab

import (
	"strings"
	"testing"
)

// value tests the value that a def of that type, with that text, has, behind more commands.
func value(t *testing.T, more, typ, text, want string) {
	t.Helper()
	added, fault := ran(t, more+" def a : "+typ+" := "+text+".", 3000)
	if fault != "right" {
		t.Errorf("%s def a : %s := %s: %s", more, typ, text, fault)
		return
	}
	lines := strings.Split(strings.TrimSuffix(added, "\n"), "\n")
	last := lines[len(lines)-1]
	if !strings.HasSuffix(last, " "+want+")") {
		t.Errorf("%s def a : %s := %s becomes\n%s\nwant the value\n%s", more, typ, text, last, want)
	}
}

// Implicit arguments of constants of every kind: ahead of the first explicit one, between, behind the last one.
func TestImplicitArguments(t *testing.T) {
	for _, c := range [][4]string{
		// of an axiom, a def, a theorem: those of its binders, and of the forall that its type begins with
		{"axiom f {A : Type} (a : A) : A.", "Nat", "f zero", "(app (app (const f) (const Nat)) (const zero))"},
		{"def f {A : Type} (a : A) : A := a.", "Nat", "f zero", "(app (app (const f) (const Nat)) (const zero))"},
		{"theorem f {A : Type} (a : A) : A := a.", "Nat", "f zero", "(app (app (const f) (const Nat)) (const zero))"},
		{"axiom f : forall {A : Type} (a : A), A.", "Nat", "f zero", "(app (app (const f) (const Nat)) (const zero))"},
		{"axiom f {A : Type} : A -> A.", "Nat", "f zero", "(app (app (const f) (const Nat)) (const zero))"},
		{"axiom f : forall {A : Type}, A -> forall {B : Type}, B -> B.", "Nat", "f zero zero", "(app (app (app (app (const f) (const Nat)) (const zero)) (const Nat)) (const zero))"},
		{"axiom f (n : Nat) : forall {A : Type}, A -> A.", "Nat", "f zero one", "(app (app (app (const f) (const zero)) (const Nat)) (const one))"},
		{"axiom f : Nat -> forall {A : Type}, A.", "Nat", "f zero", "(app (app (const f) (const zero)) (const Nat))"},
		// an (e : T) is none, and what a type comes to is not how it begins
		{"axiom f : (forall {A : Type}, A -> A : Type 1).", "Nat", "f Nat zero", "(app (app (const f) (const Nat)) (const zero))"},
		{"axiom f (n : Nat) : (forall {A : Type}, A -> A : Type 1).", "Nat", "f zero Nat zero", "(app (app (app (const f) (const zero)) (const Nat)) (const zero))"},
		{"axiom f {n : Nat} (m : n = zero) : (forall {A : Type}, A : Type 1).", "Nat", "f refl Nat", "(app (app (app (const f) (const zero)) (app (app (const refl (s 0)) (const Nat)) (const zero))) (const Nat))"},
		{"axiom f : id (forall {A : Type}, A -> A).", "Nat", "f Nat zero", "(app (app (const f) (const Nat)) (const zero))"},
		{"axiom f : (forall {A : Type}, A -> A) -> Nat.", "Nat", "f (fun A a => a)", "(app (const f) (lam (sort (s 0)) (lam #0 #0)))"},
		{"def F : Type 1 := forall {A : Type}, A -> A. axiom f : F.", "Nat", "f Nat zero", "(app (app (const f) (const Nat)) (const zero))"},
		{"axiom f : let A : Type := Nat in forall {a : A}, a = a -> Nat.", "Nat", "f zero refl", "(app (app (const f) (const zero)) (app (app (const refl (s 0)) (const Nat)) (const zero)))"},
		// without an argument, with some, with more than there are signs
		{"axiom f {A : Type} : A.", "Nat", "f", "(app (const f) (const Nat))"},
		{"", "Nat -> Nat", "id", "(app (const id (s 0)) (const Nat))"},
		{"", "Nat", "id succ zero", "(app (app (app (const id (imax (s 0) (s 0))) (pi (const Nat) (const Nat))) (const succ)) (const zero))"},
		{"axiom f {A : Type} {B : Type} (a : A) : B -> Nat.", "Nat -> Nat", "f zero", "(app (app (app (const f) (const Nat)) (const Nat)) (const zero))"},
		// with @: none
		{"", "Nat", "@id Nat zero", "(app (app (const id (s 0)) (const Nat)) (const zero))"},
		{"", "forall (A : Type), A -> A", "@id", "(const id (s 0))"},
		{"", "Nat -> Nat", "@id Nat", "(app (const id (s 0)) (const Nat))"},
		{"", "Nat", "@id _ zero", "(app (app (const id (s 0)) (const Nat)) (const zero))"},
		{"", "List Nat", "@cons Nat zero (@nil Nat)", "(app (app (app (const cons 0) (const Nat)) (const zero)) (app (const nil 0) (const Nat)))"},
		// of a family: those of its binders alone
		{"inductive T {A : Type} (a : A) : forall {n : Nat}, Type | c : T a zero.", "Type", "T one zero", "(app (app (app (const T) (const Nat)) (const one)) (const zero))"},
		{"", "Prop", "Eq zero one", "(app (app (app (const Eq (s 0)) (const Nat)) (const zero)) (const one))"},
		{"", "Nat -> Prop", "Eq zero", "(app (app (const Eq (s 0)) (const Nat)) (const zero))"},
		{"", "Prop", "@Eq Nat zero one", "(app (app (app (const Eq (s 0)) (const Nat)) (const zero)) (const one))"},
		// of a constructor: the parameters, then those of its own forall
		{"", "List Nat", "cons zero nil", "(app (app (app (const cons 0) (const Nat)) (const zero)) (app (const nil 0) (const Nat)))"},
		{"", "Vec Nat one", "vcons zero vnil", "(app (app (app (app (const vcons) (const Nat)) (const zero)) (const zero)) (app (const vnil) (const Nat)))"},
		{"inductive T (A : Type) {B : Type} : B -> Type | c : A -> forall {b : B}, T A b.", "T Nat zero", "c one", "(app (app (app (app (const c) (const Nat)) (const Nat)) (const one)) (const zero))"},
		{"", "And (P zero) (P one)", "both p p", "(app (app (app (app (const both) (app (const P) (const zero))) (app (const P) (const one))) (app (const p) (const zero))) (app (const p) (const one)))"},
		// of a recursor: none
		{"", "Nat", "Nat.rec (fun (x : Nat) => Nat) zero (fun (k : Nat) (r : Nat) => r) one", "(app (app (app (app (const Nat.rec (s 0)) (lam (const Nat) (const Nat))) (const zero)) (lam (const Nat) (lam (const Nat) #0))) (const one))"},
		{"inductive T {A : Type} (a : A) : Type | c : T a.", "Nat", "T.rec Nat zero (fun (x : T zero) => Nat) one c", "(app (app (app (app (app (const T.rec (s 0)) (const Nat)) (const zero)) (lam (app (app (const T) (const Nat)) (const zero)) (const Nat))) (const one)) (app (app (const c) (const Nat)) (const zero)))"},
		// of a variable: none
		{"", "(forall {A : Type}, A -> A) -> Nat", "fun f => f Nat zero", "(lam (pi (sort (s 0)) (pi #0 #1)) (app (app #0 (const Nat)) (const zero)))"},
		{"", "(forall {A : Type}, A) -> Nat", "fun f => f Nat", "(lam (pi (sort (s 0)) #0) (app #0 (const Nat)))"},
		{"", "Nat", "(fun {A : Type} (a : A) => a) Nat zero", "(app (app (lam (sort (s 0)) (lam #0 #0)) (const Nat)) (const zero))"},
		{"", "Nat", "let f : forall {A : Type}, A -> A := @id in f Nat zero", "(let (pi (sort (s 0)) (pi #0 #1)) (const id (s 0)) (app (app #0 (const Nat)) (const zero)))"},
		// between and behind
		{"axiom f {a : Nat} (x : a = zero) {b : Nat} (y : b = one) {c d : Nat} : Vec Nat c -> Vec Nat d -> Nat.", "Vec Nat zero -> Vec Nat one -> Nat", "f (refl : zero = zero) (refl : one = one)",
			"(app (app (app (app (app (app (const f) (const zero)) (app (app (const refl (s 0)) (const Nat)) (const zero))) (const one)) (app (app (const refl (s 0)) (const Nat)) (const one))) (const zero)) (const one))"},
	} {
		value(t, c[0], c[1], c[2], c[3])
	}
}

// Where implicit arguments stand that are given, and where more arguments are given than there are, texts are refused.
func TestImplicitArgumentsThatAreNotLeftOut(t *testing.T) {
	for _, c := range [][2]string{
		{"def a : Nat := id Nat zero.", "FFun"},
		{"def a : Nat := @id zero.", "FArg"},
		{"def a : List Nat := cons Nat zero nil.", "FArg"},
		{"def a : Nat := Nat.rec Nat zero (fun k r => r) one.", "FArg"},
		{"theorem a : And (P zero) (P zero) := both _ _ p p.", "FFun"},
		{"def a : (forall {A : Type}, A -> A) -> Nat := fun f => f zero.", "FArg"},
	} {
		if _, fault := ran(t, c[0], 3000); !strings.HasPrefix(fault, c[1]+" at ") {
			t.Errorf("%s: %s, want %s", c[0], fault, c[1])
		}
	}
}
