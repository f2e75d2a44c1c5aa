package syntax

import (
	"reflect"
	"strings"
	"testing"

	"provekernel/api"
)

// printed holds what a text is printed as against what is wanted, and reads that again.
func printed(t *testing.T, text, want string) {
	t.Helper()
	cs := parsed(t, text)
	if got := Print(cs); got != want {
		t.Errorf("%q is printed as %q, want %q", text, got, want)
		return
	}
	printedAgain(t, cs)
}

func TestPrintCommands(t *testing.T) {
	for _, c := range []struct{ text, want string }{
		{"", ""},
		{"axiom  a:A .", "axiom a : A.\n"},
		{"axiom a.{u,v,w}(x y:A){z:B}(w : C) : D.", "axiom a.{u, v, w} (x : A) (y : A) {z : B} (w : C) : D.\n"},
		{"def a.b:A:=b.", "def a.b : A := b.\n"},
		{"def a.{u} {x : A} : B := c.", "def a.{u} {x : A} : B := c.\n"},
		{"theorem a:A:=b.", "theorem a : A := b.\n"},
		{"theorem a : A by refl.", "theorem a : A by refl.\n"},
		{"theorem a.{u} (x : A) : B by intro x y  z;exact f x;apply g;assumption;refl;induction x;cases y;rewrite h;have k:A->B;constructor 0;exists z;simpl;symm .", "theorem a.{u} (x : A) : B by intro x y z; exact f x; apply g; assumption; refl; induction x; cases y; rewrite h; have k : A -> B; constructor 0; exists z; simpl; symm.\n"},
		{"theorem a : A by exact fun x => x; have x : forall (y : A), B; constructor 99.", "theorem a : A by exact fun (x : _) => x; have x : forall (y : A), B; constructor 99.\n"},
		{"inductive I:Type.", "inductive I : Type.\n"},
		{"inductive I.{u}{A:Sort u}(a:A):A->Prop|refl:I a a|c.d:A->I a a.", "inductive I.{u} {A : Sort u} (a : A) : A -> Prop | refl : I a a | c.d : A -> I a a.\n"},
		{"axiom a : A. axiom b : B.\n--\ndef c : C := d.", "axiom a : A.\naxiom b : B.\ndef c : C := d.\n"},
	} {
		printed(t, c.text, c.want)
	}
}

func TestPrintExpressions(t *testing.T) {
	for _, c := range []struct{ text, want string }{
		{"x", "x"},
		{"(x)", "x"},
		{"_", "_"},
		{"@ x", "@x"},
		{"x .{ u,v }", "x.{u, v}"},
		{"@x.{u} y", "@x.{u} y"},
		{"f @x @y.{u} _", "f @x @y.{u} _"},
		{"Sort 0", "Prop"},
		{"Sort 1", "Type"},
		{"Type 0", "Type"},
		{"Type 1", "Sort 2"},
		{"Type 98", "Sort 99"},
		{"Sort (0+1)", "Type"},
		{"Sort (u)", "Sort u"},
		{"Sort (u+1)", "Sort (u+1)"},
		{"Sort (u+0)", "Sort u"},
		{"Sort (max 0 0)", "Sort (max 0 0)"},
		{"Sort (imax u (v+1))", "Sort (imax u (v+1))"},
		{"(Sort u) (Sort 0) (Sort (u+1)) Type", "Sort u Prop Sort (u+1) Type"},
		{"f a b", "f a b"},
		{"(f a) b", "f a b"},
		{"((f) (a)) (b)", "f a b"},
		{"f (a b)", "f (a b)"},
		{"f (a b c) (d (e f))", "f (a b c) (d (e f))"},
		{"(x : A)", "(x : A)"},
		{"((x : A))", "(x : A)"},
		{"(((x : A)) : B) ((y : C)) = ((z : D))", "((x : A) : B) (y : C) = (z : D)"},
		{"(fun x => x : A -> B)", "(fun (x : _) => x : A -> B)"},
		{"(a = b : Prop)", "(a = b : Prop)"},
		{"fun x y => x", "fun (x : _) => fun (y : _) => x"},
		{"fun (x y : A) {z : B} w => x", "fun (x : A) => fun (y : A) => fun {z : B} => fun (w : _) => x"},
		{"(fun x => x) a", "(fun (x : _) => x) a"},
		{"f (fun x => x) a", "f (fun (x : _) => x) a"},
		{"fun x => (x a)", "fun (x : _) => x a"},
		{"fun x => (a = b)", "fun (x : _) => a = b"},
		{"(fun x => x) = (fun x => x)", "(fun (x : _) => x) = (fun (x : _) => x)"},
		{"(fun x => x) -> (fun x => x)", "(fun (x : _) => x) -> fun (x : _) => x"},
		{"fun (x : (A -> B)) => x", "fun (x : A -> B) => x"},
		{"forall (x y : A) {z : B}, C", "forall (x : A), forall (y : A), forall {z : B}, C"},
		{"(forall (x : A), B) -> C", "(forall (x : A), B) -> C"},
		{"A -> (forall (x : A), B)", "A -> forall (x : A), B"},
		{"forall (x : A), (B -> C)", "forall (x : A), B -> C"},
		{"(forall (x : A), B) a", "(forall (x : A), B) a"},
		{"f (forall (x : A), B)", "f (forall (x : A), B)"},
		{"(forall (x : A), B) = (forall (x : A), B)", "(forall (x : A), B) = (forall (x : A), B)"},
		{"A -> B -> C", "A -> B -> C"},
		{"A -> (B -> C)", "A -> B -> C"},
		{"(A -> B) -> C", "(A -> B) -> C"},
		{"((A -> B) -> C) -> D", "((A -> B) -> C) -> D"},
		{"f (A -> B)", "f (A -> B)"},
		{"(A -> B) c", "(A -> B) c"},
		{"(A -> B) = (C -> D)", "(A -> B) = (C -> D)"},
		{"(f a) -> (g b)", "f a -> g b"},
		{"(a = b) -> (c = d)", "a = b -> c = d"},
		{"(f a) = (g b)", "f a = g b"},
		{"(a = b) = c", "(a = b) = c"},
		{"a = (b = c)", "a = (b = c)"},
		{"a = (b -> c)", "a = (b -> c)"},
		{"f (a = b)", "f (a = b)"},
		{"(a = b) c", "(a = b) c"},
		{"(a = b) c d", "(a = b) c d"},
		{"(a = b) c = d", "(a = b) c = d"},
		{"Eq a b", "Eq a b"},
		{"@Eq A a b", "@Eq A a b"},
		{"let x : A := b in c", "let x : A := b in c"},
		{"let x : (A -> B) := (fun y => y) in (x = x)", "let x : A -> B := fun (y : _) => y in x = x"},
		{"let x : A := (let y : B := c in d) in e", "let x : A := let y : B := c in d in e"},
		{"(let x : A := b in c) d", "(let x : A := b in c) d"},
		{"f (let x : A := b in c)", "f (let x : A := b in c)"},
		{"(let x : A := b in c) = (let x : A := b in c)", "(let x : A := b in c) = (let x : A := b in c)"},
		{"(let x : A := b in c) -> (let x : A := b in c)", "(let x : A := b in c) -> let x : A := b in c"},
	} {
		printed(t, "axiom a : "+c.text+".", "axiom a : "+c.want+".\n")
		printed(t, "def a : "+c.text+" := "+c.text+".", "def a : "+c.want+" := "+c.want+".\n")
		printed(t, "theorem a (x : "+c.text+") : A by exact "+c.text+".", "theorem a (x : "+c.want+") : A by exact "+c.want+".\n")
	}
}

func TestPrintLevels(t *testing.T) {
	for _, c := range []struct{ text, want, latom string }{
		{"0", "0", "0"},
		{"1", "1", "1"},
		{"99", "99", "99"},
		{"1+1", "2", "2"},
		{"u", "u", "u"},
		{"(u)", "u", "u"},
		{"u + 1", "u+1", "(u+1)"},
		{"u+1+2", "u+3", "(u+3)"},
		{"(u+1)+98", "u+99", "(u+99)"},
		{"max u v", "max u v", "(max u v)"},
		{"imax u 3", "imax u 3", "(imax u 3)"},
		{"max (u) (3)", "max u 3", "(max u 3)"},
		{"max (u+1) (max u v)", "max (u+1) (max u v)", "(max (u+1) (max u v))"},
		{"(max u v) + 2", "(max u v)+2", "((max u v)+2)"},
		{"(imax u v)+1+1", "(imax u v)+2", "((imax u v)+2)"},
		{"imax ((max u v)+1) (1+1)", "imax ((max u v)+1) 2", "(imax ((max u v)+1) 2)"},
	} {
		printed(t, "axiom a : f.{"+c.text+","+c.text+"}.", "axiom a : f.{"+c.want+", "+c.want+"}.\n")
		if c.want != "0" && c.want != "1" {
			printed(t, "axiom a : Sort ("+c.text+").", "axiom a : Sort "+c.latom+".\n")
		}
		printed(t, "axiom a : f.{max ("+c.text+") u}.", "axiom a : f.{max "+c.latom+" u}.\n")
	}
}

// The blanks of a printed text, token by token, as the document has them.
func TestBlanks(t *testing.T) {
	noneBehind := " ( { .{ @ + "
	noneAhead := " ) } , . ; .{ + "
	for seed := range 400 {
		d := newDrawn(seed)
		cs := d.commands(1 + d.pick(3))
		text := Print(cs)
		lines := strings.SplitAfter(text, "\n")
		if len(lines) != len(cs)+1 || lines[len(cs)] != "" {
			t.Fatalf("%d commands stand on %d lines: %q", len(cs), len(lines)-1, text)
		}
		for _, line := range lines[:len(cs)] {
			want, last := "", "("
			for _, token := range tokens(line) {
				if token.kind == end {
					break
				}
				if !strings.Contains(noneBehind, " "+last+" ") && !strings.Contains(noneAhead, " "+token.text+" ") {
					want += " "
				}
				want += token.text
				last = token.text
			}
			if line != want+"\n" {
				t.Fatalf("%q is printed, want %q", line, want)
			}
		}
	}
}

// Without any one pair of its brackets, a printed text is another one, or none.
func TestNoBracketsTooMany(t *testing.T) {
	pairs := 0
	for seed := range 700 {
		d := newDrawn(seed)
		cs := d.commands(1)
		text := Print(cs)
		if len(text) > 3000 {
			continue
		}
		want := unplacedAll(cs)
		for _, pair := range bracketPairs(text) {
			pairs++
			less := text[:pair[0]] + " " + text[pair[0]+1:pair[1]] + " " + text[pair[1]+1:]
			if got, err := Parse(less); err == nil && reflect.DeepEqual(unplacedAll(got), want) {
				t.Fatalf("in %q the brackets at %d and %d need not stand", text, pair[0], pair[1])
			}
		}
	}
	if pairs < 5000 {
		t.Errorf("only %d pairs of brackets", pairs)
	}
}

// bracketPairs are the places of a text's round brackets.
func bracketPairs(text string) [][2]int {
	var pairs [][2]int
	var open []int
	for at, c := range text {
		switch c {
		case '(':
			open = append(open, at)
		case ')':
			pairs = append(pairs, [2]int{open[len(open)-1], at})
			open = open[:len(open)-1]
		}
	}
	return pairs
}

// Trees that no text is parsed as are printed somehow: none makes the printing panic, or go on without end.
func TestPrintOddTrees(t *testing.T) {
	var exprs []api.Expr
	for kind := -1; kind <= 9; kind++ {
		for parts := range 4 {
			e := api.Expr{Kind: kind, Args: make([]api.Expr, parts)}
			exprs = append(exprs, e, api.Expr{Kind: kind, Name: "a", Explicit: true, Given: true, Infix: true, Implicit: true, Args: []api.Expr{e}})
		}
	}
	for kind := -1; kind <= 5; kind++ {
		for parts := range 4 {
			l := api.Level{Kind: kind, Args: make([]api.Level, parts)}
			exprs = append(exprs, api.Expr{Kind: api.XSort, Levels: []api.Level{l}}, api.Expr{Kind: api.XName, Given: true, Levels: []api.Level{l, {Kind: api.Max, Args: []api.Level{l}}}})
		}
	}
	for kind := -1; kind <= 5; kind++ {
		for _, e := range exprs {
			c := api.Command{Kind: kind, Type: e, Value: e, Binders: []api.Binder{{Type: e}}, Ctors: []api.CtorText{{Type: e}}}
			if text := Print([]api.Command{c}); !strings.HasSuffix(text, ".\n") {
				t.Errorf("%+v is printed as %q", c, text)
			}
		}
	}
	for kind := -1; kind <= 14; kind++ {
		c := api.Command{Kind: api.CTheorem, ByTactics: true, Tactics: []api.Tactic{{Kind: kind}, {Kind: kind, Number: -7, Exprs: exprs[:3], Names: []string{"", "a"}}}}
		if text := Print([]api.Command{c}); !strings.HasPrefix(text, "theorem") {
			t.Errorf("%+v is printed as %q", c, text)
		}
	}
	for _, e := range []api.Expr{{Kind: api.XName, Name: "Eq", Infix: true}, {Kind: api.XApply, Args: []api.Expr{{Kind: api.XName, Name: "Eq", Infix: true}, {Kind: api.XHole}}}} {
		if text := Print([]api.Command{{Kind: api.CAxiom, Name: "a", Type: e}}); !strings.HasPrefix(text, "axiom a : Eq") {
			t.Errorf("the sign = without both its operands is printed as %q", text)
		}
	}
}
