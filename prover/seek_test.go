package prover_test

import (
	"math/rand"
	"strconv"
	"strings"
	"testing"

	"provekernel/api"
	"provekernel/elab"
	"provekernel/lib"
	"provekernel/prover"
)

// seeker looks for proofs by chance: a tactic that can do something stays.
type seeker struct {
	*rand.Rand
	*testing.T
	state *elab.State
	tries int
}

// one of some texts.
func (s *seeker) one(texts ...string) string { return texts[s.Intn(len(texts))] }

// proposition draws one, of what the library knows and of these binders.
func (s *seeker) proposition(deep int) string {
	if deep <= 0 {
		return s.one("A", "B", "C", "False", "P n", "P (succ n)", "R n m", s.equation(1))
	}
	a, b := s.proposition(deep-1), s.proposition(deep-1-s.Intn(2))
	return s.one("("+a+" -> "+b+")", "And ("+a+") ("+b+")", "Or ("+a+") ("+b+")", "Not ("+a+")", "Exists (fun (n : Nat) => "+a+")", "(forall (n : Nat), "+a+")", "(forall (l : List Nat), "+a+")", "("+s.equation(deep)+")")
}

// equation draws one, of numbers or of lists.
func (s *seeker) equation(deep int) string {
	if s.Intn(3) == 0 {
		return s.list(deep) + " = " + s.list(deep)
	}
	return s.number(deep) + " = " + s.number(deep)
}

func (s *seeker) number(deep int) string {
	if deep <= 0 {
		return s.one("zero", "n", "m", "k", "n")
	}
	return s.one("add ("+s.number(deep-1)+") ("+s.number(deep-1)+")", "succ ("+s.number(deep-1)+")", "length ("+s.list(deep-1)+")", s.number(0))
}

func (s *seeker) list(deep int) string {
	if deep <= 0 {
		return s.one("l", "l", "nil")
	}
	return s.one("append ("+s.list(deep-1)+") ("+s.list(deep-1)+")", "cons ("+s.number(deep-1)+") ("+s.list(deep-1)+")", s.list(0))
}

// true draws a proposition that can be proved, for the most part.
func (s *seeker) true() string {
	x, y := s.number(2), s.number(1)
	return s.one(
		"A -> A", "A -> B -> And A B", "And A B -> And B A", "Or A B -> Or B A", "A -> Not (Not A)", "(A -> B) -> Not B -> Not A", "False -> A", "Exists (fun (x : Nat) => x = n)", "And A (Or B C) -> Or (And A B) (And A C)",
		"P n -> n = m -> P m", "R n m -> n = k -> R k m", "(forall (x : Nat), P x) -> P ("+x+")", "(forall (x : Nat), P x -> P (succ x)) -> P zero -> P n", "Exists P -> Exists (fun (x : Nat) => P x)", "Exists (fun (x : Nat) => R x x) -> Exists (fun (x : Nat) => Exists (R x))",
		"add ("+x+") ("+y+") = add ("+y+") ("+x+")", "add zero ("+x+") = "+x, "succ (add ("+x+") ("+y+")) = add ("+x+") (succ ("+y+"))", "append l nil = l", "append nil l = l", "length (append l l) = add (length l) (length l)", "append (append l l) l = append l (append l l)",
		x+" = "+x, "n = m -> m = k -> n = k", "n = m -> "+x+" = "+strings.ReplaceAll(x, "n", "m"), "("+x+" = "+y+") -> ("+y+" = "+x+")", "add (succ n) m = succ (add n m)", "length l = zero -> length l = length (append nil l)", "forall (x y : Nat), x = y -> P x -> P y",
	)
}

// head draws the head of a theorem of that name: binders and a type.
func (s *seeker) head(name, typ string) string {
	return "theorem " + name + " " + s.one("(A B C : Prop) (n m k : Nat) (l : List Nat) (P : Nat -> Prop) (R : Nat -> Nat -> Prop)", "(P : Nat -> Prop) {A B C : Prop} (l : List Nat) {n m k : Nat} (R : Nat -> Nat -> Prop)") + " : " + typ
}

// term draws an expression, right or not.
func (s *seeker) term(deep int) string {
	name := s.one("a", "b", "a'", "b'", "ih", "h", "h'", "g", "n", "m", "l", "x", "zero", "refl", "nil")
	if deep <= 0 || s.Intn(3) > 0 {
		return name
	}
	f := s.one("a", "b", "a'", "ih", "h", "g", "succ", "cong", "symm", "trans", "addZero", "addSucc", "addComm", "addAssoc", "appendNil", "appendAssoc", "lengthAppend", "both", "inl", "inr", "intro", "cong succ", "cong (cons a)", "add", "length", "append l", "P", "False.rec (fun f => _)")
	for range s.Intn(3) {
		f += " (" + s.term(deep-1) + ")"
	}
	return "(" + f + ")"
}

// tactic draws one.
func (s *seeker) tactic() string {
	name := s.one("h", "h'", "g", "x", "n", "m", "l", "a", "b", "a'", "ih")
	switch s.Intn(16) {
	case 0, 1:
		return "intro " + name
	case 2:
		return "intro h g"
	case 3, 4:
		return "exact " + s.term(3)
	case 5:
		return "apply " + s.term(2)
	case 6, 7:
		return "assumption"
	case 8, 9:
		return "refl"
	case 10:
		return s.one("induction ", "cases ") + name
	case 11, 12:
		return "rewrite " + s.one("addZero", "addSucc", "appendNil", "lengthAppend", "(addComm n m)", s.term(2))
	case 13:
		return s.one("constructor 1", "constructor 2", "simpl", "symm")
	case 14:
		return "exists " + s.one(s.number(1), s.term(1))
	}
	return "have " + name + " : " + s.proposition(1)
}

// mostGoals: how many goals there may be at once, while a proof is looked for.
const mostGoals = 4

// left is how many goals a proof leaves; below 0: a tactic of it cannot do it.
func (s *seeker) left(proof string) int {
	for n := range mostGoals + 1 {
		c := parsed(s, proof+strings.Repeat("; exact anything", n)+".")[0]
		c.Name = "try" + strconv.Itoa(s.tries)
		s.tries++
		switch code, at := api.Code(s.state.Run(c, 1000)); {
		case code == 0:
			return n
		case code != api.FTactic || at != 0:
			return -1
		}
	}
	return mostGoals + 1
}

// proof looks for one of a theorem, with so many tries; false: none has been found.
func (s *seeker) proof(head string, tries int) (string, bool) {
	made, goals := head+" by ", 1
	for range tries {
		next := s.tactic()
		if s.Intn(4) == 0 {
			next = s.one("assumption", "refl", "constructor 1", "exact ih", "intro h", "exact h", "exact cong succ ih")
		}
		left := s.left(made + next)
		switch {
		case left == 0:
			return made + next + ".\n", true
		case left > 0 && left <= mostGoals && (left <= goals || s.Intn(3) == 0):
			made, goals = made+next+"; ", left
		}
	}
	return made, false
}

// libraryState is a state that knows the library, and an axiom by which a seeker counts goals.
func libraryState(t *testing.T) *elab.State {
	t.Helper()
	s := elab.New()
	for _, c := range parsed(t, lib.Text()+"axiom anything.{u} {A : Sort u} : A.") {
		if err := s.Run(c, 10000); err != nil {
			t.Fatalf("%s: %s", c.Name, shown(err))
		}
	}
	return s
}

// Theorems for which a proof by tactics is found by chance: Process accepts them as well, and all holds that comes of it.
func TestSoughtProofs(t *testing.T) {
	t.Parallel()
	library := len(parsed(t, lib.Text()))
	found := 0
	for seed := range int64(8) {
		s := &seeker{rand.New(rand.NewSource(seed)), t, libraryState(t), 0}
		text, n := lib.Text(), 0
		for i := range 20 {
			typ := s.true()
			if i%4 == 0 {
				typ = s.proposition(2)
			}
			if proof, ok := s.proof(s.head("t"+string(rune('a'+i)), typ), 150); ok {
				text += proof
				n++
			}
		}
		r := prover.Process(text, 1000)
		if r.Added != library+n || r.Err != nil {
			t.Errorf("%s: %d added, %s", shortened(text), r.Added, shown(r.Err))
		}
		holds(t, shortened(text), r, 1000, library)
		found += n
	}
	if found < 25 {
		t.Errorf("only %d proofs are found", found)
	}
}
