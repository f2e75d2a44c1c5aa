package elab

import (
	"strconv"
	"strings"
	"testing"

	"provekernel/api"
	"provekernel/kernel"
)

// marks is a text without the sign | that stands in it twice, one behind the other, and where that stood.
func marks(text string) (string, string) {
	at := strings.Index(text, "||")
	return text[:at] + text[at+2:], strconv.Itoa(at)
}

// Names that mean nothing, and variables with levels: FName at the name.
func TestNoNames(t *testing.T) {
	for _, c := range []string{
		"def a : Nat := ||nothing.", "def a : ||nothing := zero.", "def a (x : ||nothing) : Nat := zero.", "axiom a : ||nothing.", "axiom a : Nat -> ||nothing.",
		"def a (x : Nat) : Nat := succ ||y.", "def a : Nat := ||@nothing zero.", "def a : Nat := ||nothing.{1} zero.", "def a : Nat := add zero (succ ||nothing).",
		"def a (x : Nat) : Nat := ||x.{1}.", "def a (x : Nat) : Nat := ||@x.{1}.", "def a : Nat -> Nat := fun zero => ||zero.{0}.", "def a : Nat := let x : Nat := zero in ||x.{1}.",
		"def a (x : ||x) : Nat := zero.", "def a : Nat := let x : Nat := ||x in x.", "def a : Nat := let x : ||x := zero in x.", "def a : Nat := (fun (x : Nat) => x) ||x.", "def a : Nat -> Nat := fun (x : ||x) => x.",
		"def a : Nat := ||a.", "axiom a : ||a.", "theorem a : ||b := zero.", "theorem a : ||b by refl.",
		"inductive T : ||T.", "inductive T (x : ||T) : Type.", "inductive T : Type | c : ||U.", "inductive T : Type | c : T | d : ||c -> T.", "inductive T : Type | c : ||T.rec -> T.", "inductive T : Type | c : Nat -> ||T.c.",
		"def a : Nat := add (let x : Nat := zero in x) ||x.", "axiom a : (forall (x : Nat), P x) -> P ||x.", "def a : (Nat -> Nat) -> Nat := fun f => add (f ((fun (y : Nat) => y) zero)) ||y.",
		"def a : Nat := (zero : ||nothing).", "def a : Nat := (||nothing : Nat).", "def a : Prop := forall (x : Nat), ||y = x.", "axiom a (A : Type) : A -> ||B.",
	} {
		text, at := marks(c)
		refused(t, text, "FName at "+at)
	}
	s := New()
	text, at := marks("axiom a : Prop ||= Prop.")
	if got := shown(s.Run(parsed(t, text)[0], 1000), 0); got != "FName at "+at {
		t.Errorf("%s without Eq: %s", text, got)
	}
	for _, name := range strings.Fields("zero Nat List.rec id") {
		text := "axiom a : " + name + "."
		if got := shown(s.Run(parsed(t, text)[0], 1000), 0); got != "FName at 10" {
			t.Errorf("%s in an empty state: %s", text, got)
		}
	}
}

// Faults of the kernel: its codes, at the command's first byte.
func TestKernelFaults(t *testing.T) {
	long := strings.Repeat("n", 37)
	for _, c := range [][2]string{
		{"def zero : Nat := zero.", "FTwice"}, {"axiom Nat.rec : Prop.", "FTwice"}, {"axiom P : Prop.", "FTwice"}, {"def add (m n : Nat) : Nat := id m.", "FTwice"}, {"theorem one : zero = zero := refl.", "FTwice"},
		{"inductive Nat : Type.", "FTwice"}, {"inductive T : Type | zero : T.", "FTwice"}, {"inductive T : Type | c : T | c : T.", "FTwice"}, {"inductive T : Type | T : T.", "FTwice"},
		{"axiom T.rec : Nat. inductive T : Type.", "FTwice"},
		{"axiom a.{u, u} : Sort u.", "FParam"}, {"axiom a : Sort u.", "FParam"}, {"axiom a.{u} : Sort (max u v).", "FParam"}, {"def a.{u} : Nat := @id.{v} Nat zero.", "FParam"}, {"axiom a.{b, c, d, e, f, g, h} : Prop.", "FParam"},
		{"def a (x : List Nat) : Sort u -> List Nat := fun y => x.", "FParam"}, {"inductive T.{u, u} : Type.", "FParam"},
		{"axiom a : Nat.{1}.", "FLevels"}, {"def a : Nat := @id.{1, 2} Nat zero.", "FLevels"}, {"def a : Nat := id.{1, 2} zero.", "FLevels"}, {"def a (x : List Nat) : Nat := zero.{0}.", "FLevels"}, {"axiom a : List.{0, 0} Nat.", "FLevels"},
		{"inductive T.{u} (A : Sort u) : Prop | c : T.{u, u} A.", "FLevels"},
		{"def a : Nat := zero zero.", "FFun"}, {"def a (x : Nat) : Nat := x x.", "FFun"}, {"axiom a : Nat zero.", "FFun"}, {"def a : Nat := Prop Prop.", "FFun"},
		{"def a : (Nat : Type) := succ.", "FArg"}, {"def a : (Prop : Type) := (zero : Nat).", "FArg"}, {"inductive T : (Type : Type 1) | c : (T -> Nat) -> T.", "FPos"}, {"def a : Nat := succ (Nat : Type).", "FArg"},
		{"def a : Nat := succ.", "FArg"}, {"def a : Nat -> Prop := fun (x : Nat) => x.", "FArg"}, {"def a : Nat := succ Nat.", "FArg"}, {"def a : Nat := let x : Nat := Nat in zero.", "FArg"},
		{"def a : zero := zero.", "FSort"}, {"axiom a : zero.", "FSort"}, {"axiom a (x : zero) : Nat.", "FSort"}, {"axiom a : Nat -> zero.", "FSort"}, {"def a : Nat -> Nat := fun (x : succ) => x.", "FSort"}, {"def a : Nat := let x : zero := zero in zero.", "FSort"},
		{"inductive T : Nat.", "FForm"}, {"inductive T : Type | c : Nat.", "FForm"}, {"inductive T.{u} : Sort u.", "FForm"}, {"inductive T (A : Type) : Type | c : T Nat.", "FForm"}, {"inductive T.{u} (A : Sort u) : Prop | c : forall (B : Prop), T.{0} B.", "FForm"},
		{"inductive " + long + " : Type.", "FForm"}, {"inductive T (A : Type) : Type | c : List A -> T (id A).", "FForm"},
		{"inductive T : Type | c : (T -> Nat) -> T.", "FPos"}, {"inductive T (A : Type) : Type | c : List (T A) -> T A.", "FPos"},
		{"inductive T : Type | c : Type -> T.", "FLevel"}, {"inductive T (A : Type) : Type | c : List Type -> T A.", "FLevel"},
	} {
		text := "axiom first : Nat.\n\t" + c[0]
		cs := parsed(t, text)
		last := cs[len(cs)-1].At
		refused(t, text, c[1]+" at "+strconv.Itoa(last))
	}
}

// What cannot be found, and what cannot be so: a fault at a place in the command.
func TestNotFound(t *testing.T) {
	for _, c := range [][2]string{
		{"def a : Nat := ||_.", "FStuck"}, {"def a : Nat -> Nat := fun x => ||_.", "FStuck"}, {"def a : Nat := (||_ : Nat).", "FStuck"}, {"axiom a : ||_.", "FStuck"}, {"axiom a (x : ||_) : Nat.", "FStuck"}, {"def a : ||_ := _.", "FStuck"},
		{"def a : Nat := (fun (x : ||_) => zero) _.", "FStuck"}, {"def a : Nat := ||pick zero zero.", "FStuck"}, {"def a : Nat := (fun ||x => zero) nil.", "FStuck"}, {"inductive T.{u} : Prop | c : T. def a : ||T := c.", "FStuck"},
		{"def a : Nat := let x : List ||_ := nil in zero.", "FStuck"}, {"def a : Nat := (fun ||x => zero) (fun (y : _) => y).", "FStuck"},
		{"def a : Nat := (zero : (fun (A : Type) => Nat) ||_).", "FStuck"}, {"axiom f.{u} : Prop. axiom a : (f : (fun (x : ||Exists) => Prop) f) -> Prop.", ""},
		{"def a : Nat := id ||succ.", "FArg"}, {"theorem a : zero = one := ||refl.", "FArg"}, {"def a : List Nat := cons ||nil nil.", "FArg"}, {"def a : Nat := (||zero : Prop).", "FArg"}, {"def a : Nat := ||(zero : id (id Nat)) nil.", ""},
		{"theorem a : forall (n : Nat), add zero n = n := fun n => ||refl.", "FArg"}, {"def a : Prop := high ||Nat.", "FArg"}, {"def a.{u} (A : Sort u) : Prop := high ||A.", "FArg"}, {"def a : Nat := ||id.{2} zero.", ""},
		{"axiom f {Q : Nat -> Prop} (n : Nat) (h : Q n) (g : Exists Q) : Nat. def a (e : Exists P) : Nat := f one ||(p : P zero) e.", "FArg"}, {"def U.{u} : Sort (u+2) := Sort (u+1). def a (A : U.{0}) : U.{0} := (||A : U.{1}).", "FArg"},
		{"axiom f {m n : Nat} (h : P (add m (succ n))) (v : Vec Nat n) : Nat. def a (h : P (add zero one)) (v : Vec Nat one) : Nat := f h ||v.", "FArg"},
		{"inductive Ph.{u} : Type | ph : Ph. def a (x : Ph.{0}) : Ph.{0} := (||x : Ph.{1}).", "FArg"}, {"def a (f : Nat -> Nat) : Nat -> Nat := (||f : Prop -> Nat).", "FArg"}, {"def a (f : Nat -> Nat) : Nat -> Nat := (||f : Nat -> Prop).", "FArg"},
		{"theorem a : Exists (fun x => x = succ x) := intro _ ||refl.", "FArg"}, {"axiom k {A : Type} (f : Nat -> A) : Nat. def a (v : forall (n : Nat), Vec Nat n) : Nat := k ||v.", "FArg"}, {"axiom R : (Nat -> Nat) -> Type. def a (x : R (fun n => n)) : R (fun n => n) := (||x : R (fun n => zero)).", "FArg"},
		{"def a (x : Vec Nat zero) : Vec Nat zero := (||x : Vec Nat one).", "FArg"}, {"def a (x : Vec Nat (add zero one)) : Vec Nat one := (||x : Vec Nat (add one one)).", "FArg"}, {"def a : Nat := (zero : (||Nat : Prop)).", "FArg"}, {"def a : Nat := ((||zero : Prop) : Nat).", "FArg"},
		{"def a : Nat := (zero : ||zero).", "FSort"}, {"def a : Nat := ||id zero zero.", "FFun"}, {"axiom a (n : id zero) : Nat.", ""}, {"def a : Nat -> Nat := fun (x : ||id zero) => x.", "FSort"},
		{"def a : Nat := (fun x => ||x x) zero.", ""}, {"def a : Nat := (fun x => ||x zero x) id.", ""}, {"theorem a : Exists (fun x => x = succ x) := intro zero ||refl.", "FArg"},
		{"axiom s.{u} (A : Sort u) (B : Sort (u+1)) : Prop. axiom a : forall (A : _), s A A.", ""}, {"axiom f.{u, v} (A : Sort (imax u v)) : Prop. def a (A : Prop) : Prop := ||f A.", "FStuck"}, {"axiom k {A : Type} (f : Nat -> A) : A. def a (v : forall (n : Nat), Vec Nat n) : Nat := id (||k v).", ""},
		{"axiom f.{u, v} (A : Sort (max u v)) : Prop. def a : Prop := ||f Nat.", "FStuck"}, {"def a : Nat := let n : Nat := ||_ in zero.", "FStuck"}, {"theorem a : one = one := let n : Nat := zero in (||refl : n = one).", "FArg"}, {"def a : Nat := (_ : (zero = zero) = zero).", ""},
		{"theorem a : Exists (fun f => f = succ) := intro zero ||refl.", ""}, {"def a (A : Sort (max b (max c (max d (max e (max f (max g (max h (max i (max j (max k (max l (max m n))))))))))))) (B : Sort (max n (max m (max l (max k (max j (max i (max h (max g (max f (max e (max d (max c b))))))))))))) : Prop := A = B.", ""},
		{"def a : (forall (x : Nat), Vec Nat x) -> Nat := fun f => ||id (f : forall (x : Nat), Vec Nat zero).", ""},
	} {
		if c[1] != "" {
			text, at := marks(c[0])
			refused(t, text, c[1]+" at "+at)
			continue
		}
		text := strings.Replace(c[0], "||", "", 1)
		s := worldState(t)
		cs := parsed(t, text)
		for i, command := range cs {
			err := s.Run(command, 3000)
			code, at := api.Code(err)
			if i == len(cs)-1 && (code <= 0 || at < command.At || at >= len(text)) {
				t.Errorf("%s: %s", text, shown(err, 0))
			}
		}
	}
}

// The type of a theorem by tactics: what the kernel says of it goes ahead of the proof; what it leaves open may be found by that.
func TestTypesOfTheorems(t *testing.T) {
	for _, c := range [][2]string{
		{"theorem zero : Nat by refl.", "FTwice at 0"}, {"theorem a.{u, u} : Nat by refl.", "FParam at 0"}, {"theorem a : Sort u by refl.", "FParam at 0"}, {"theorem a : zero by refl.", "FSort at 0"},
		{"theorem a (n : zero) : Nat by refl.", "FSort at 0"}, {"theorem a : zero = zero zero by refl.", "FFun at 19"}, {"theorem a : id.{1, 2} zero = zero by refl.", "FLevels at 0"}, {"theorem a : P Nat by refl.", "FArg at 0"}, {"theorem a : zero = Nat by refl.", "FArg at 19"},
		{"theorem a : (P zero : Nat) by refl.", "FArg at 13"}, {"theorem a : (P (zero : Prop) : Prop) by refl.", "FArg at 16"}, {"theorem a (n : _) : Nat by exact zero.", "FStuck at 15"}, {"theorem a : _ by refl.", "FTactic at 17"}, {"theorem a : (fun (x : _) => Nat) _ by exact zero.", "FStuck at 22"},
	} {
		refused(t, c[0], c[1])
	}
	for _, c := range [][2]string{
		{"theorem a : _ by exact zero.", "(def a () (const Nat) (const zero))"},
		{"theorem a (n : _) : Nat by exact succ n.", "(def a () (pi (const Nat) (const Nat)) (lam (const Nat) (app (const succ) #0)))"},
		{"theorem a : (Nat : Type) by exact zero.", "(def a () (const Nat) (const zero))"},
		{"theorem a : forall (n : _), n = zero -> Nat by intro n h; exact n.", "(def a () (pi (const Nat) (pi (app (app (app (const Eq (s 0)) (const Nat)) #0) (const zero)) (const Nat))) (lam (const Nat) (lam (app (app (app (const Eq (s 0)) (const Nat)) #0) (const zero)) #1)))"},
		{"theorem a (A : Prop) : id (A -> A) by intro x; exact x.", "(def a () (pi (sort 0) (app (app (const id (s (imax 0 0))) (sort (imax 0 0))) (pi #0 #1))) (lam (sort 0) (lam #0 #0)))"},
		{"theorem a : Exists P by exists zero; exact p.", "(def a () (app (app (const Exists (s 0)) (const Nat)) (const P)) (app (app (app (app (const intro (s 0)) (const Nat)) (const P)) (const zero)) (app (const p) (const zero))))"},
	} {
		becomes(t, c[0], c[1])
	}
}

// A command with a fault leaves the state as it was, and the next one runs.
func TestFaultsLeaveTheState(t *testing.T) {
	for _, wrong := range []string{
		"def a : Nat := nothing.", "def a : Nat := _.", "def a : Nat := id succ.", "def a : zero := zero.", "inductive a : Type | c : (a -> Nat) -> a.", "inductive a : Type | c : a | d : b.", "axiom a.{u, u} : Prop.", "theorem a : zero = one by refl.", "theorem a : zero = zero by simpl.", "theorem a (n : Nat) : n = n by induction n; refl; exact nothing.", "theorem a : Nat by apply (pick zero zero).", "theorem a : Nat by exact let x : Nat := zero in id x x.",
		"def a : Nat := let x : Nat := zero in id x x.", "inductive a (n : _) : Type | c : Type -> a n.",
	} {
		s, twin := worldState(t), worldState(t)
		if err := s.Run(parsed(t, wrong)[0], 3000); err == nil {
			t.Errorf("%s is added", wrong)
		}
		if len(s.known) != len(twin.known) || kernel.Export(s.Env()) != kernel.Export(twin.Env()) {
			t.Errorf("%s changes the state", wrong)
		}
		for _, right := range []string{"inductive a : Type | c : a | d : a -> a.", "def e : a := d (id c)."} {
			if err := s.Run(parsed(t, right)[0], 3000); err != nil {
				t.Errorf("%s behind %s: %s", right, wrong, shown(err, 0))
			}
			twin.Run(parsed(t, right)[0], 3000)
		}
		if kernel.Export(s.Env()) != kernel.Export(twin.Env()) {
			t.Errorf("behind %s something else is added", wrong)
		}
	}
}
