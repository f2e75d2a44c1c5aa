package tactic_test

import (
	"strconv"
	"strings"
	"testing"

	"provekernel/api"
	"provekernel/elab"
	"provekernel/kernel"
	"provekernel/small"
	"provekernel/syntax"
	"provekernel/term"
)

// world: what the theorems of most tests stand on.
const world = `inductive Eq.{u} {A : Sort u} (a : A) : A -> Prop | refl : Eq a a.
inductive Nat : Type | zero : Nat | succ : Nat -> Nat.
inductive And (A B : Prop) : Prop | both : A -> B -> And A B.
inductive Or (A B : Prop) : Prop | inl : A -> Or A B | inr : B -> Or A B.
inductive False : Prop.
inductive True : Prop | trivial : True.
inductive Exists.{u} {A : Sort u} (P : A -> Prop) : Prop | intro : forall (x : A), P x -> Exists P.
inductive List.{u} (A : Sort (u+1)) : Sort (u+1) | nil : List A | cons : A -> List A -> List A.
inductive Vec (A : Type) : Nat -> Type | vnil : Vec A zero | vcons : forall {n : Nat}, A -> Vec A n -> Vec A (succ n).
inductive Le (m : Nat) : Nat -> Prop | same : Le m m | next : forall {n : Nat}, Le m n -> Le m (succ n).
inductive Acc.{u} {A : Sort u} (R : A -> A -> Prop) : A -> Prop | acc : forall (x : A), (forall (y : A), R y x -> Acc R y) -> Acc R x.
inductive Tree.{u} (A : Sort (u+1)) : Sort (u+1) | leaf : Tree A | node : Tree A -> A -> Tree A -> Tree A.
inductive Pair (A B : Type) : Type | pair : A -> B -> Pair A B.
inductive Two (A : Type) : Nat -> Nat -> Type | turn : forall (n m : Nat), Two A n m -> Two A m n | start : A -> Two A zero zero.
def add (m n : Nat) : Nat := Nat.rec (fun x => Nat) m (fun k r => succ r) n.
def one : Nat := succ zero.
def id.{u} {A : Sort u} (a : A) : A := a.
def Not (A : Prop) : Prop := A -> False.
def Equal (m n : Nat) : Prop := m = n.
def Number : Type := Nat.
axiom P : Nat -> Prop.
axiom p : forall {n : Nat}, P n.
axiom Q : Nat -> Nat -> Prop.
axiom q (x : Nat) {y : Nat} (h : x = y) (k : P x) : Q x y.
theorem symmetry.{u} {A : Sort u} {a b : A} : a = b -> b = a by intro h; cases h; refl.
theorem trans.{u} {A : Sort u} {a b c : A} : a = b -> b = c -> a = c by intro h k; rewrite h; exact k.
theorem cong.{u, v} {A : Sort u} {B : Sort v} (f : A -> B) {a b : A} : a = b -> f a = f b by intro h; rewrite h; refl.
`

// shown is the text of a fault.
func shown(err error) string {
	names := [...]string{"right", "FText", "FLong", "FTwice", "FName", "FParam", "FLevels", "FVar", "FFun", "FArg", "FSort", "FForm", "FPos", "FLevel", "FTired", "FStuck", "FTactic"}
	code, at := api.Code(err)
	if code < 0 || code >= len(names) {
		return "no fault: " + strconv.Itoa(code)
	}
	if code == 0 {
		return names[0]
	}
	return names[code] + " at " + strconv.Itoa(at)
}

// parsed is the commands of a text.
func parsed(t *testing.T, text string) []api.Command {
	t.Helper()
	cs, err := syntax.Parse(text)
	if err != nil {
		_, at := api.Code(err)
		t.Fatalf("%q is no text: %q", text, text[at:])
	}
	return cs
}

// worldState is a state that knows the world.
func worldState(t *testing.T) *elab.State {
	t.Helper()
	s := elab.New()
	for _, c := range parsed(t, world) {
		if err := s.Run(c, 3000); err != nil {
			t.Fatalf("%s of the world: %s", c.Name, shown(err))
		}
	}
	return s
}

// ran runs the commands of a text behind the world, up to the first fault: the state, how many were added, and the fault.
func ran(t *testing.T, text string, fuel int) (*elab.State, int, string) {
	t.Helper()
	s := worldState(t)
	for i, c := range parsed(t, text) {
		if err := s.Run(c, fuel); err != nil {
			return s, i, shown(err)
		}
	}
	return s, len(parsed(t, text)), "right"
}

// proves tests that the commands of a text are added, and that the kernel and the small checker find right what they have become.
func proves(t *testing.T, text string) {
	t.Helper()
	s, _, fault := ran(t, text, 3000)
	if fault != "right" {
		t.Errorf("%s: %s", text, fault)
		return
	}
	isRight(t, text, s)
}

// isRight tests that the kernel and the small checker find all right that a state knows.
func isRight(t *testing.T, text string, s *elab.State) {
	t.Helper()
	export := kernel.Export(s.Env())
	want := len(s.Env().Decls())
	if _, n, err := kernel.File(export, 10000); n != want || err != nil {
		t.Errorf("%s: the kernel finds %d right, %s", text, n, shown(err))
	}
	if n, err := small.Check(export, 10000); n != want || err != nil {
		t.Errorf("%s: the small checker finds %d right, %s", text, n, shown(err))
	}
}

// fails tests that a text's last command is refused, with that fault where || stands in the text, and that those ahead are added.
func fails(t *testing.T, marked, code string) {
	t.Helper()
	at := strings.Index(marked, "||")
	if at < 0 {
		t.Fatalf("%s has no mark", marked)
	}
	text := marked[:at] + marked[at+2:]
	want := code + " at " + strconv.Itoa(at)
	s, added, fault := ran(t, text, 3000)
	if fault != want || added != len(parsed(t, text))-1 {
		t.Errorf("%s: %s, %d added; want %s", marked, fault, added, want)
	}
	if got, want := len(s.Env().Decls()), len(parsed(t, world))+added; got != want {
		t.Errorf("%s: there are %d declarations, want %d", marked, got, want)
	}
}

// all does something to each line that is no blank one.
func all(lines string, do func(line string)) {
	for _, line := range strings.Split(lines, "\n") {
		if line = strings.TrimSpace(line); line != "" {
			do(line)
		}
	}
}

// allProve tests that each line is proved.
func allProve(t *testing.T, lines string) {
	t.Helper()
	all(lines, func(line string) { proves(t, line) })
}

// allFail tests that in each line a tactic that stands behind || cannot do it.
func allFail(t *testing.T, lines string) {
	t.Helper()
	all(lines, func(line string) { fails(t, line, "FTactic") })
}

// isValue tests that a text's last command becomes a definition whose value ends so, behind its binders.
func isValue(t *testing.T, text, want string) {
	t.Helper()
	s, _, fault := ran(t, text, 3000)
	if fault != "right" {
		t.Errorf("%s: %s", text, fault)
		return
	}
	ds := s.Env().Decls()
	value := ds[len(ds)-1].Value
	for value.Kind == api.Lam {
		value = value.Args[1]
	}
	if got := term.Print(value); got != want {
		t.Errorf("%s becomes %s, want %s", text, got, want)
	}
}

// equalityFits tells whether @Eq.{1} Nat zero zero is a Prop where Eq is declared so.
func equalityFits(declared string) bool {
	return declared != "" && !strings.Contains(declared, "Eq {A : Type}") && !strings.Contains(declared, "A -> Type")
}

// emptyState is a state that knows the commands of a text, and nothing else.
func emptyState(t *testing.T, text string) *elab.State {
	t.Helper()
	s := elab.New()
	for _, c := range parsed(t, text) {
		if err := s.Run(c, 3000); err != nil {
			t.Fatalf("%s: %s", c.Name, shown(err))
		}
	}
	return s
}

// codeOf is the text of a fault's code.
func codeOf(err error) string {
	code, _, _ := strings.Cut(shown(err), " ")
	return code
}
