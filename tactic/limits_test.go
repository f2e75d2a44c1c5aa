package tactic_test

import (
	"strconv"
	"strings"
	"testing"

	"provekernel/api"
)

// again is a part as often as that, a middle, what closes it as often.
func again(n int, part, middle, closing string) string {
	return strings.Repeat(part, n) + middle + strings.Repeat(closing, n)
}

// names are that many different ones.
func names(n int) string {
	var b strings.Builder
	for i := range n {
		b.WriteString(" x" + strconv.Itoa(i))
	}
	return b.String()
}

// Proofs that are long, and goals in long contexts, as far as no term has more than 20000 parts: all is done.
func TestLarge(t *testing.T) {
	long := "theorem t : " + again(3000, "Nat -> ", "Nat", "") + " by intro" + names(3000)
	for _, text := range []string{
		long + "; exact x7.",
		long + "; assumption.",
		long + "; have h : Nat; exact x7; exact @add h x8.",
		long + "; apply add; exact x8; exact x9.",
		long + "; induction x2000; exact x9; exact ih.",
		"theorem t : " + again(4500, "Nat -> ", "Nat", "") + " by " + again(4500, "intro x; ", "exact x", "") + ".",
		"theorem t : " + again(3000, "Nat -> ", "zero = zero", "") + " by intro" + names(3000) + "; refl.",
		"theorem t : " + again(3000, "Nat -> ", "zero = zero", "") + " by exact fun" + names(3000) + " => refl.",
		"theorem t (n : Nat) : " + again(500, "P n -> ", "P n", "") + " by intro" + names(500) + "; cases n; exact x7; exact x8.",
		"theorem t : Nat by " + again(4500, "apply succ; ", "exact zero", "") + ".",
		"theorem t : Nat by " + again(4500, "constructor 2; ", "constructor 1", "") + ".",
		"theorem t : Nat by " + again(2000, "have h : Nat; exact zero; ", "exact h", "") + ".",
		"theorem t : Nat by exact " + again(4500, "@succ (", "@zero", ")") + ".",
		"theorem t : Nat by exact " + again(4500, "succ (", "id zero", ")") + ".",
		"theorem t (n m : Nat) (h : n = m) : m = n by " + again(151, "symm; ", "exact h", "") + ".",
		"theorem t (n m : Nat) (h : n = m) (k : m = n) : n = n by " + again(60, "rewrite h; rewrite k; ", "refl", "") + ".",
		"theorem t (n m : Nat) (h : n = m) (k : P (" + again(2000, "succ (", "m", ")") + ")) : P (" + again(2000, "succ (", "n", ")") + ") by rewrite h; exact k.",
		"theorem t : Nat by " + again(5000, "simpl; ", "exact zero", "") + ".",
		"theorem t : Nat by " + again(2500, "apply id; ", "exact zero", "") + ".",
		"theorem t (n : Nat) : n = n by " + again(300, "induction n; refl; ", "refl", "") + ".",
		"theorem t : zero = zero by " + again(400, "apply trans; ", "refl", "") + strings.Repeat("; refl", 400) + ".",
		"theorem t (f : " + again(3000, "Nat -> ", "Nat", "") + ") : Nat by apply f" + strings.Repeat("; exact zero", 3000) + ".",
		"theorem t : Exists P by exists " + again(3000, "succ (", "zero", ")") + "; exact p.",
	} {
		if _, _, fault := ran(t, text, 3000); fault != "right" {
			t.Errorf("%.60s..: %s", text, fault)
		}
	}
}

// Proofs that are larger than that, or that cannot be made: all ends, and no call panics.
func TestTooLarge(t *testing.T) {
	more := "def twice (n : Nat) : Nat := add n n. "
	for i, text := range []string{
		"theorem t (n : Nat) : " + again(3000, "P n -> ", "zero = zero", "") + " by intro" + names(3000) + "; cases n; refl; refl.",
		"theorem t (n m : Nat) (h : n = m) : m = n by " + again(5001, "symm;", "exact h", "") + ".",
		"theorem t (n m : Nat) (h : n = m) (k : m = n) : n = n by " + again(9000, "rewrite h;rewrite k;", "refl", "") + ".",
		"theorem t (n m : Nat) (h : n = m) : " + again(2000, "add n (", "n", ")") + " = n by rewrite h; exact h.",
		"theorem t (h : forall (x y : Nat), add x y = zero) (n : Nat) : " + again(2000, "add n (", "n", ")") + " = n by rewrite h; exact h.",
		"theorem t : " + again(12, "twice (", "one", ")") + " = " + again(12, "twice (", "zero", ")") + " by " + again(2000, "simpl;", "refl", "") + ".",
		"theorem t : " + again(12, "twice (", "one", ")") + " = " + again(12, "twice (", "zero", ")") + " by refl.",
		"theorem t : Exists (fun n => " + again(12, "twice (", "n", ")") + " = " + again(11, "twice (", "one", ")") + ") by apply (intro _); refl.",
		"theorem t (n : Nat) : n = n by " + again(5000, "cases n;", "refl", "") + ".",
		"theorem t (n : Nat) : n = n by " + again(3000, "induction n;", "refl", "") + ".",
		"theorem t : Nat by " + again(300, "apply Nat.rec;", "exact zero", "") + ".",
		"theorem t : Nat by " + again(3000, "apply Eq.rec;", "exact zero", "") + ".",
		"theorem t : zero = one by " + again(5000, "apply trans;", "refl", "") + ".",
		"theorem t : Nat by " + again(8000, "have h : Nat;", "assumption", "") + ".",
		"theorem t : _ by " + again(3000, "apply _;", "exact zero", "") + ".",
		"theorem t : _ by " + again(3000, "have h : _;", "exact zero", "") + ".",
		"theorem t : Nat by " + again(20000, "exact _;", "exact zero", "") + ".",
		"theorem t : Nat by rewrite " + again(1000, "_ (", "zero", ")") + ".",
		"theorem t : Nat by exact " + again(60000, "(", "zero", ")") + ".",
		"theorem t : Nat by exact (fun x => x x) (fun x => x x).",
		"theorem t : " + again(30000, "_ -> ", "_", "") + " by " + again(30, "intro x;", "exact x", "") + ".",
		"theorem t:" + again(12000, "forall(a b:", "Nat", "),Nat") + " by intro x.",
		"theorem t:" + again(13, "forall(a b:", "_", "),Nat") + " by intro x.",
		"theorem t : Nat by have x : " + again(12000, "forall(a b:", "Nat", "),Nat") + ".",
		"theorem t (f : forall (" + again(2000, "x ", ": Nat), x = x", "") + ") : zero = zero by rewrite f; refl.",
		"theorem t (f : forall (" + again(2000, "x ", ": Nat), x = x", "") + ") : zero = zero by apply f.",
	} {
		s := worldState(t)
		for _, c := range parsed(t, more) {
			s.Run(c, 1000)
		}
		before := len(s.Env().Decls())
		if err := s.Run(parsed(t, text)[0], []int{0, 100000}[i%2]); err != nil {
			if code, at := api.Code(err); code <= 0 || at < 0 || at >= len(text) || len(s.Env().Decls()) != before {
				t.Errorf("%.60s..: %s", text, shown(err))
			}
		}
	}
}

// With each fuel from none on a theorem is proved, or there is too little, which is told at the command; with more it is proved
// again.
func TestFuel(t *testing.T) {
	for _, text := range []string{
		"theorem t : add one one = succ one by refl.",
		"theorem t (n : Nat) : add zero n = n by induction n; refl; exact cong succ ih.",
		"theorem t (n : Nat) : add n one = succ n by simpl; refl.",
		"theorem t : id (id Nat -> Nat) by intro n; exact n.",
		"theorem t (n m : Nat) (h : Equal n m) (g : P m) : P n by rewrite h; assumption.",
		"theorem t (h : P (add one (add one one))) : P (succ (succ one)) by assumption.",
		"theorem t : Exists (fun n => add n one = succ one) by exists one; refl.",
	} {
		enough := false
		for fuel := range 120 {
			_, _, fault := ran(t, text, fuel)
			if fault != "right" && (enough || fault != "FTired at 0") {
				t.Errorf("%s with %d steps: %s", text, fuel, fault)
			}
			enough = enough || fault == "right"
		}
		if !enough {
			t.Errorf("%s is never proved", text)
		}
	}
}

// What takes no steps is done without any; intro and exact with few, where types are but equal.
func TestLittleFuel(t *testing.T) {
	for _, c := range []struct {
		text string
		fuel int
	}{
		{"theorem t (A B : Prop) : A -> B -> A by intro a b; exact a.", 0},
		{"theorem t (A B : Prop) : A -> B -> A by intro a b; assumption.", 0},
		{"theorem t (n : Nat) : n = n by exact @refl.{1} Nat n.", 0},
		{"theorem t (n : Nat) : n = n by refl.", 0},
		{"theorem t (A B : Prop) (a : A) (b : B) : And A B by constructor 1; exact a; exact b.", 0},
		{"theorem t : @id.{2} Type Nat -> Nat by exact fun (x : Nat) => x.", 1000},
		{"theorem t : Nat -> Nat by exact fun (x : @id.{2} Type Nat) => x.", 1000},
		{"theorem t : Nat -> @id.{2} Type Nat by intro x; exact x.", 1000},
		{"theorem t : @Eq.{1} Nat (@add @one (@add @one @one)) (@succ (@succ @one)) by exact @refl.{1} Nat (@add (@add @one @one) @one).", 1030},
		{"theorem t : forall (n : Nat), @Eq.{1} Nat (@add n @one) (@succ n) by intro n; exact @refl.{1} Nat (@add n (@add @zero @one)).", 1030},
	} {
		if _, _, fault := ran(t, c.text, c.fuel); fault != "right" {
			t.Errorf("%s with %d steps: %s", c.text, c.fuel, fault)
		}
	}
}
