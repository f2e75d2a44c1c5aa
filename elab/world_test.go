package elab

import (
	"strconv"
	"strings"
	"testing"

	"provekernel/api"
	"provekernel/kernel"
	"provekernel/syntax"
)

// world: what the texts of most tests stand on.
const world = `inductive Eq.{u} {A : Sort u} (a : A) : A -> Prop | refl : Eq a a.
inductive Nat : Type | zero : Nat | succ : Nat -> Nat.
inductive And (A B : Prop) : Prop | both : A -> B -> And A B.
inductive False : Prop.
inductive Exists.{u} {A : Sort u} (P : A -> Prop) : Prop | intro : forall (x : A), P x -> Exists P.
inductive List.{u} (A : Sort (u+1)) : Sort (u+1) | nil : List A | cons : A -> List A -> List A.
inductive Vec (A : Type) : Nat -> Type | vnil : Vec A zero | vcons : forall {n : Nat}, A -> Vec A n -> Vec A (succ n).
def add (m n : Nat) : Nat := Nat.rec (fun x => Nat) m (fun k r => succ r) n.
def one : Nat := succ zero.
def id.{u} {A : Sort u} (a : A) : A := a.
def Not (A : Prop) : Prop := A -> False.
def any (n : Nat) : Nat := zero.
axiom pick {A : Type} (a : A) {B : Type} (b : B) {C : Type} : A.
axiom P : Nat -> Prop.
axiom p : forall {n : Nat}, P n.
axiom all : forall {Q : Nat -> Prop}, (forall (n : Nat), Q n) -> Nat.
axiom high.{u} (A : Sort (u+2)) : Prop.
axiom two.{u, v} (A : Sort u) (B : Sort v) (C : Sort (max u v)) : Prop.
`

// The texts of parts of the core that come again and again.
const (
	nat  = "(const Nat)"
	zero = "(const zero)"
)

// shown is the text of a fault, with its place in a text that stands behind so many bytes.
func shown(err error, ahead int) string {
	names := [...]string{"right", "FText", "FLong", "FTwice", "FName", "FParam", "FLevels", "FVar", "FFun", "FArg", "FSort", "FForm", "FPos", "FLevel", "FTired", "FStuck", "FTactic"}
	code, at := api.Code(err)
	if code < 0 || code >= len(names) {
		return "no fault: " + strconv.Itoa(code)
	}
	if code == 0 {
		return names[0]
	}
	return names[code] + " at " + strconv.Itoa(at-ahead)
}

// parsed is the commands of a text.
func parsed(t *testing.T, text string) []api.Command {
	t.Helper()
	cs, err := syntax.Parse(text)
	if err != nil {
		_, at := api.Code(err)
		t.Fatalf("%q is no text: %q", text, text[at:])
	}
	return cs
}

// worldState is a state that knows the world.
func worldState(t *testing.T) *State {
	t.Helper()
	s := New()
	for _, c := range parsed(t, world) {
		if err := s.Run(c, 3000); err != nil {
			t.Fatalf("%s of the world: %s", c.Name, shown(err, 0))
		}
	}
	return s
}

// ran runs the commands of a text behind the world, up to the first fault: what has been added, each on a line, and the fault.
func ran(t *testing.T, text string, fuel int) (string, string) {
	t.Helper()
	s := worldState(t)
	before := len(kernel.Export(s.Env()))
	for _, c := range parsed(t, text) {
		if err := s.Run(c, fuel); err != nil {
			return kernel.Export(s.Env())[before:], shown(err, 0)
		}
	}
	return kernel.Export(s.Env())[before:], "right"
}

// becomes tests that a text's last command becomes that declaration.
func becomes(t *testing.T, text, want string) {
	t.Helper()
	added, fault := ran(t, text, 3000)
	lines := strings.Split(strings.TrimSuffix(added, "\n"), "\n")
	if last := lines[len(lines)-1]; fault != "right" || last != want {
		t.Errorf("%s\n%s, and becomes\n%s\nwant\n%s", text, fault, last, want)
	}
}

// refused tests that a text's last command is refused so, and that those ahead of it are added.
func refused(t *testing.T, text, want string) {
	t.Helper()
	added, fault := ran(t, text, 3000)
	if n := strings.Count(added, "\n"); fault != want || n != len(parsed(t, text))-1 {
		t.Errorf("%s: %s, %d added; want %s", text, fault, n, want)
	}
}
