package lib_test

import (
	"strings"
	"testing"

	"provekernel/api"
	"provekernel/kernel"
	"provekernel/lib"
	"provekernel/prover"
	"provekernel/reduce"
	"provekernel/small"
	"provekernel/syntax"
	"provekernel/term"
)

// fuel with which the library must be accepted.
const fuel = 10000

// families of the library, as the document writes them.
const families = `(inductive Eq (u) 2 (pi (sort u) (pi #0 (pi #1 (sort 0)))) (ctor refl (pi (sort u) (pi #0 (app (app (app (const Eq u) #1) #0) #0)))))
(inductive Nat () 0 (sort (s 0)) (ctor zero (const Nat)) (ctor succ (pi (const Nat) (const Nat))))
(inductive False () 0 (sort 0))
(inductive And () 2 (pi (sort 0) (pi (sort 0) (sort 0))) (ctor both (pi (sort 0) (pi (sort 0) (pi #1 (pi #1 (app (app (const And) #3) #2)))))))
(inductive Or () 2 (pi (sort 0) (pi (sort 0) (sort 0))) (ctor inl (pi (sort 0) (pi (sort 0) (pi #1 (app (app (const Or) #2) #1))))) (ctor inr (pi (sort 0) (pi (sort 0) (pi #0 (app (app (const Or) #2) #1))))))
(inductive Exists (u) 2 (pi (sort u) (pi (pi #0 (sort 0)) (sort 0))) (ctor intro (pi (sort u) (pi (pi #0 (sort 0)) (pi #1 (pi (app #1 #0) (app (app (const Exists u) #3) #2)))))))
(inductive List (u) 1 (pi (sort (s u)) (sort (s u))) (ctor nil (pi (sort (s u)) (app (const List u) #0))) (ctor cons (pi (sort (s u)) (pi #0 (pi (app (const List u) #1) (app (const List u) #2))))))
`

// types of its definitions and theorems, likewise: a name, its levels, its type.
const types = `Not () : (pi (sort 0) (sort 0))
add () : (pi (const Nat) (pi (const Nat) (const Nat)))
append (u) : (pi (sort (s u)) (pi (app (const List u) #0) (pi (app (const List u) #1) (app (const List u) #2))))
length (u) : (pi (sort (s u)) (pi (app (const List u) #0) (const Nat)))
symm (u) : (pi (sort u) (pi #0 (pi #1 (pi (app (app (app (const Eq u) #2) #1) #0) (app (app (app (const Eq u) #3) #1) #2)))))
trans (u) : (pi (sort u) (pi #0 (pi #1 (pi #2 (pi (app (app (app (const Eq u) #3) #2) #1) (pi (app (app (app (const Eq u) #4) #2) #1) (app (app (app (const Eq u) #5) #4) #2)))))))
cong (u v) : (pi (sort u) (pi (sort v) (pi (pi #1 #1) (pi #2 (pi #3 (pi (app (app (app (const Eq u) #4) #1) #0) (app (app (app (const Eq v) #4) (app #3 #2)) (app #3 #1))))))))
addZero () : (pi (const Nat) (app (app (app (const Eq (s 0)) (const Nat)) (app (app (const add) (const zero)) #0)) #0))
addSucc () : (pi (const Nat) (pi (const Nat) (app (app (app (const Eq (s 0)) (const Nat)) (app (app (const add) (app (const succ) #1)) #0)) (app (const succ) (app (app (const add) #1) #0)))))
addComm () : (pi (const Nat) (pi (const Nat) (app (app (app (const Eq (s 0)) (const Nat)) (app (app (const add) #1) #0)) (app (app (const add) #0) #1))))
addAssoc () : (pi (const Nat) (pi (const Nat) (pi (const Nat) (app (app (app (const Eq (s 0)) (const Nat)) (app (app (const add) (app (app (const add) #2) #1)) #0)) (app (app (const add) #2) (app (app (const add) #1) #0))))))
appendNil (u) : (pi (sort (s u)) (pi (app (const List u) #0) (app (app (app (const Eq (s u)) (app (const List u) #1)) (app (app (app (const append u) #1) #0) (app (const nil u) #1))) #0)))
appendAssoc (u) : (pi (sort (s u)) (pi (app (const List u) #0) (pi (app (const List u) #1) (pi (app (const List u) #2) (app (app (app (const Eq (s u)) (app (const List u) #3)) (app (app (app (const append u) #3) (app (app (app (const append u) #3) #2) #1)) #0)) (app (app (app (const append u) #3) #2) (app (app (app (const append u) #3) #1) #0)))))))
lengthAppend (u) : (pi (sort (s u)) (pi (app (const List u) #0) (pi (app (const List u) #1) (app (app (app (const Eq (s 0)) (const Nat)) (app (app (const length u) #2) (app (app (app (const append u) #2) #1) #0))) (app (app (const add) (app (app (const length u) #2) #1)) (app (app (const length u) #2) #0))))))
`

// processed is the report of the library with a text behind it, all of which must be added.
func processed(t *testing.T, more string) prover.Report {
	t.Helper()
	r := prover.Process(lib.Text()+more, fuel)
	if r.Err != nil {
		code, at := api.Code(r.Err)
		t.Fatalf("%s: %d added, fault %d at %d", more, r.Added, code, at-len(lib.Text()))
	}
	return r
}

// env is an environment that knows the library, and a text of the core behind it.
func env(t *testing.T, more string) *reduce.Env {
	t.Helper()
	text := processed(t, "").Text + more
	e, _, err := kernel.File(text, fuel)
	if err != nil {
		t.Fatalf("the kernel does not find %s right", text)
	}
	return e
}

// Every command is accepted; the text is the same each time, and others may stand behind it.
func TestAccepted(t *testing.T) {
	cs, err := syntax.Parse(lib.Text())
	if err != nil || len(cs) == 0 {
		t.Fatalf("the library is no text: %v", err)
	}
	r := processed(t, "")
	if r.Added != len(cs) || len(r.Names) != len(cs) {
		t.Errorf("%d of %d added", r.Added, len(cs))
	}
	for i, c := range cs {
		if r.Names[i] != c.Name {
			t.Errorf("%s is told as %s", c.Name, r.Names[i])
		}
	}
	if lib.Text() != lib.Text() || !strings.HasSuffix(lib.Text(), ".\n") {
		t.Errorf("the library ends so: %q", lib.Text()[len(lib.Text())-10:])
	}
	if more := processed(t, "axiom more : Nat."); more.Added != r.Added+1 || more.Text != r.Text+"(axiom more () (const Nat))\n" {
		t.Errorf("with a command behind it %d are added", more.Added)
	}
}

// No axiom stands in it, neither in the text nor in what is exported.
func TestNoAxiom(t *testing.T) {
	if text := processed(t, "").Text; strings.Contains(text, "(axiom") {
		t.Errorf("an axiom stands in %s", text)
	}
	cs, _ := syntax.Parse(lib.Text())
	for _, c := range cs {
		if c.Kind == api.CAxiom {
			t.Errorf("%s is an axiom", c.Name)
		}
	}
}

// The kernel and the small checker find right what is exported.
func TestRight(t *testing.T) {
	r := processed(t, "")
	e, n, err := kernel.File(r.Text, fuel)
	if n != r.Added || err != nil || kernel.Export(e) != r.Text {
		t.Errorf("the kernel finds %d of %d right, %v", n, r.Added, err)
	}
	if n, err := small.Check(r.Text, fuel); n != r.Added || err != nil {
		t.Errorf("the small checker finds %d of %d right, %v", n, r.Added, err)
	}
}

// What must be there is there, with its type; theorems are definitions, none of whose names means anything else.
func TestTypes(t *testing.T) {
	text := processed(t, "").Text
	e := env(t, "")
	for _, family := range strings.SplitAfter(strings.TrimSpace(families), "\n") {
		if !strings.Contains("\n"+text, "\n"+strings.TrimSpace(family)+"\n") {
			t.Errorf("there is no %s", family)
		}
	}
	for _, line := range strings.Split(strings.TrimSpace(types), "\n") {
		head, want, _ := strings.Cut(line, " : ")
		name, levels, _ := strings.Cut(head, " ")
		params, typ, ok := e.Type(name)
		if !ok || term.Print(typ) != want || "("+strings.Join(params, " ")+")" != levels {
			t.Errorf("%s %v : %s, want %s", name, params, term.Print(typ), line)
		}
		if !strings.Contains("\n"+text, "\n(def "+name+" ") {
			t.Errorf("%s is no definition", name)
		}
	}
}

// number is the text of a number.
func number(n int) string {
	return strings.Repeat("(app (const succ) ", n) + "(const zero)" + strings.Repeat(")", n)
}

// list is the text of a list of numbers.
func list(ns ...string) string {
	text := "(app (const nil 0) (const Nat))"
	for i := len(ns) - 1; i >= 0; i-- {
		text = "(app (app (app (const cons 0) (const Nat)) " + ns[i] + ") " + text + ")"
	}
	return text
}

// What the definitions compute.
func TestComputed(t *testing.T) {
	e := env(t, "(axiom m () (const Nat)) (axiom n () (const Nat)) (axiom l () (app (const List 0) (const Nat)))")
	add := func(a, b string) string { return "(app (app (const add) " + a + ") " + b + ")" }
	append := func(a, b string) string { return "(app (app (app (const append 0) (const Nat)) " + a + ") " + b + ")" }
	length := func(a string) string { return "(app (app (const length 0) (const Nat)) " + a + ")" }
	succ := func(a string) string { return "(app (const succ) " + a + ")" }
	m, n, l := "(const m)", "(const n)", "(const l)"
	cases := map[string]string{
		add(number(2), number(1)): number(3), add(number(0), number(0)): number(0), add(number(0), number(4)): number(4), add(number(5), number(0)): number(5), add(add(number(2), number(3)), number(4)): number(9),
		add(m, number(0)): m, add(m, number(2)): succ(succ(m)), add(m, succ(n)): succ(strings.TrimSpace(normal(t, e, add(m, n)))),
		append(list(), list()): list(), append(list(m), list()): list(m), append(list(), list(n, m)): list(n, m), append(list(m, n), list(n)): list(m, n, n), append(list(number(1)), l): strings.Replace(list(number(1)), list(), l, 1),
		append(append(list(m), list(n)), list(m)): list(m, n, m), append(list(), l): l,
		length(list()): number(0), length(list(m)): number(1), length(list(m, m, n)): number(3), length(append(list(m), list(n, n))): number(3), length(list(add(number(1), number(1)))): number(1),
		"(app (const Not) (const False))": "(pi (const False) (const False))",
	}
	for text, want := range cases {
		if got := normal(t, e, text); got != want {
			t.Errorf("%s comes to %s, want %s", text, got, want)
		}
	}
	for _, text := range []string{add(number(0), n), append(l, list()), length(l)} {
		if got := normal(t, e, text); !strings.Contains(got, ".rec") {
			t.Errorf("%s comes to %s", text, got)
		}
	}
}

// normal is the text of a term's normal form.
func normal(t *testing.T, e *reduce.Env, text string) string {
	t.Helper()
	made, err := term.Parse(text)
	if err != nil {
		t.Fatalf("%s is no term", text)
	}
	form, _, err := e.Normal(made, fuel)
	if err != nil {
		t.Fatalf("%s has no normal form", text)
	}
	return term.Print(form)
}

// What is implicit can be left out: as people use the library.
func TestUsed(t *testing.T) {
	for _, text := range []string{
		"theorem x (n : Nat) : n = n := refl.", "theorem x.{v} {A : Sort v} (a : A) : a = a := refl.", "theorem x (m n : Nat) (h : m = n) : n = m := symm h.", "theorem x (k m n : Nat) (h : k = m) (g : m = n) : k = n := trans h g.",
		"theorem x (m n : Nat) (h : m = n) : succ m = succ n := cong succ h.", "theorem x (n : Nat) : add zero n = n := addZero n.", "theorem x (m n : Nat) : add (succ m) n = succ (add m n) := addSucc m n.", "theorem x (m n : Nat) : add m n = add n m := addComm m n.",
		"theorem x (k m n : Nat) : add (add k m) n = add k (add m n) := addAssoc k m n.", "theorem x (l : List Nat) : append l nil = l := appendNil l.", "theorem x (a b c : List Nat) : append (append a b) c = append a (append b c) := appendAssoc a b c.",
		"theorem x (a b : List Nat) : length (append a b) = add (length a) (length b) := lengthAppend a b.", "theorem x (A : Prop) : Not A -> A -> False := fun f a => f a.", "theorem x (A B : Prop) (a : A) (b : B) : And A B := both a b.", "theorem x (A B : Prop) (a : A) : Or A B := inl a.",
		"theorem x (A B : Prop) (b : B) : Or A B := inr b.", "theorem x : Exists (fun n => n = zero) := intro zero refl.", "def x : List Nat := cons zero nil.", "def x : List Type := cons Nat (cons (List Nat) nil).", "theorem x (A : Prop) (f : False) : A by cases f.",
		"theorem x (a b c : Nat) : add (add a b) c = add (add c b) a by rewrite (addComm (add a b) c); rewrite (addComm a b); symm; apply addAssoc.", "theorem x.{w} (A : Sort (w+1)) (a b : List A) : length (append a b) = length (append b a) by rewrite lengthAppend; rewrite addComm; symm; apply lengthAppend.",
		"theorem x : add (succ zero) (succ zero) = succ (succ zero) by refl.", "theorem x (n : Nat) : Exists (fun m => add m n = n) by exists zero; apply addZero.",
	} {
		r := processed(t, text)
		if n, err := small.Check(r.Text, fuel); n != r.Added || err != nil {
			t.Errorf("%s: the small checker finds %d of %d right, %v", text, n, r.Added, err)
		}
	}
}
