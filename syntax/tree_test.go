package syntax

import (
	"strconv"
	"strings"
	"testing"

	"provekernel/api"
)

// expression of a text, as the type of an axiom; places count from its own first byte.
func expression(t *testing.T, text string) string {
	t.Helper()
	const ahead = "axiom a : "
	c := parsed(t, ahead+text+" .")[0]
	return shown(moved(c.Type, -len(ahead)))
}

// moved is an expression again, all of it that many bytes further on.
func moved(e api.Expr, by int) api.Expr {
	e.At += by
	e.Args = append([]api.Expr(nil), e.Args...)
	for i := range e.Args {
		e.Args[i] = moved(e.Args[i], by)
	}
	return e
}

func TestExpressions(t *testing.T) {
	for _, c := range []struct{ text, want string }{
		{"x", "x@0"},
		{"a.b'.c_2", "a.b'.c_2@0"},
		{"@x", "@x@0"},
		{"@ x", "@x@0"},
		{"x.{u}", "x{ u }@0"},
		{"x .{ u , v }", "x{ u v }@0"},
		{"@x.{0,u+1, max u v,imax u 2}", "@x{ 0 (s u) (max u v) (imax u (s (s 0))) }@0"},
		{"Eq", "Eq@0"},
		{"_", "_@0"},
		{"_b", "(apply@0 _@0 b@1)"},
		{"Prop", "(sort@0 0)"},
		{"Type", "(sort@0 (s 0))"},
		{"Type 0", "(sort@0 (s 0))"},
		{"Type 2", "(sort@0 (s (s (s 0))))"},
		{"Sort 0", "(sort@0 0)"},
		{"Sort 2", "(sort@0 (s (s 0)))"},
		{"Sort u", "(sort@0 u)"},
		{"Sort (u+1)", "(sort@0 (s u))"},
		{"Sort(max u (imax 1 v))", "(sort@0 (max u (imax (s 0) v)))"},
		{"(x)", "x@1"},
		{"(((x)))", "x@3"},
		{"(x : A)", "(is@0 x@1 A@5)"},
		{"((x : A))", "(is@1 x@2 A@6)"},
		{"((x : A) : B)", "(is@0 (is@1 x@2 A@6) B@11)"},
		{"(fun x => x : A -> B)", "(is@0 (fun@5 x _@5 x@10) (forall@16 -> A@14 B@19))"},
		{"f a", "(apply@0 f@0 a@2)"},
		{"f a b", "(apply@0 (apply@0 f@0 a@2) b@4)"},
		{"f (a b)", "(apply@0 f@0 (apply@3 a@3 b@5))"},
		{"(f a) b", "(apply@1 (apply@1 f@1 a@3) b@6)"},
		{"(x : A) b", "(apply@0 (is@0 x@1 A@5) b@8)"},
		{"@f _ Type 1 Sort u Prop", "(apply@0 (apply@0 (apply@0 (apply@0 @f@0 _@3) (sort@5 (s (s 0)))) (sort@12 u)) (sort@19 0))"},
		{"Type a", "(apply@0 (sort@0 (s 0)) a@5)"},
		{"Sort u v", "(apply@0 (sort@0 u) v@7)"},
		{"f.{u}(a)", "(apply@0 f{ u }@0 a@6)"},
		{"fun x => x", "(fun@4 x _@4 x@9)"},
		{"fun x y => x", "(fun@4 x _@4 (fun@6 y _@6 x@11))"},
		{"fun (x : A) => x", "(fun@5 x A@9 x@15)"},
		{"fun {x : A} => x", "(fun@5 {x} A@9 x@15)"},
		{"fun (x y : A) => x", "(fun@5 x A@11 (fun@7 y A@11 x@17))"},
		{"fun x (y : A) {z w : B} v => x", "(fun@4 x _@4 (fun@7 y A@11 (fun@15 {z} B@21 (fun@17 {w} B@21 (fun@24 v _@24 x@29)))))"},
		{"fun (x : fun y => y) => x", "(fun@5 x (fun@13 y _@13 y@18) x@24)"},
		{"(fun x => x) a", "(apply@5 (fun@5 x _@5 x@10) a@13)"},
		{"fun x => x a -> b = c", "(fun@4 x _@4 (forall@13 -> (apply@9 x@9 a@11) (apply@18 (apply@18 =Eq@18 b@16) c@20)))"},
		{"forall (x : A), B", "(forall@8 x A@12 B@16)"},
		{"forall {x : A}, B", "(forall@8 {x} A@12 B@16)"},
		{"forall (x y : A) {z : B}, C", "(forall@8 x A@14 (forall@10 y A@14 (forall@18 {z} B@22 C@26)))"},
		{"forall (x y : A B), C", "(forall@8 x (apply@14 A@14 B@16) (forall@10 y (apply@14 A@14 B@16) C@20))"},
		{"A -> B", "(forall@2 -> A@0 B@5)"},
		{"A -> B -> C", "(forall@2 -> A@0 (forall@7 -> B@5 C@10))"},
		{"(A -> B) -> C", "(forall@9 -> (forall@3 -> A@1 B@6) C@12)"},
		{"A->fun x=>x", "(forall@1 -> A@0 (fun@7 x _@7 x@10))"},
		{"A -> forall (x : B), C", "(forall@2 -> A@0 (forall@13 x B@17 C@21))"},
		{"A -> let x : B := b in C", "(forall@2 -> A@0 (let@9 x B@13 b@18 C@23))"},
		{"forall (x : A), B -> C", "(forall@8 x A@12 (forall@18 -> B@16 C@21))"},
		{"f a -> g b", "(forall@4 -> (apply@0 f@0 a@2) (apply@7 g@7 b@9))"},
		{"let x : A := b in c", "(let@4 x A@8 b@13 c@18)"},
		{"let x : A -> B := fun y => y in x = x", "(let@4 x (forall@10 -> A@8 B@13) (fun@22 y _@22 y@27) (apply@34 (apply@34 =Eq@34 x@32) x@36))"},
		{"let x : A := let y : B := c in d in e", "(let@4 x A@8 (let@17 y B@21 c@26 d@31) e@36)"},
		{"a = b", "(apply@2 (apply@2 =Eq@2 a@0) b@4)"},
		{"f a = g b c", "(apply@4 (apply@4 =Eq@4 (apply@0 f@0 a@2)) (apply@6 (apply@6 g@6 b@8) c@10))"},
		{"(a = b) = c", "(apply@8 (apply@8 =Eq@8 (apply@3 (apply@3 =Eq@3 a@1) b@5)) c@10)"},
		{"a = (b = c)", "(apply@2 (apply@2 =Eq@2 a@0) (apply@7 (apply@7 =Eq@7 b@5) c@9))"},
		{"(a = b) c", "(apply@3 (apply@3 (apply@3 =Eq@3 a@1) b@5) c@8)"},
		{"f (a = b)", "(apply@0 f@0 (apply@5 (apply@5 =Eq@5 a@3) b@7))"},
		{"a = b -> c = d", "(forall@6 -> (apply@2 (apply@2 =Eq@2 a@0) b@4) (apply@11 (apply@11 =Eq@11 c@9) d@13))"},
		{"a = Type", "(apply@2 (apply@2 =Eq@2 a@0) (sort@4 (s 0)))"},
		{"Eq a b", "(apply@0 (apply@0 Eq@0 a@3) b@5)"},
		{"(forall (x : A), B) x", "(apply@9 (forall@9 x A@13 B@17) x@20)"},
		{"a--b\n--\n--c\n  d", "(apply@0 a@0 d@14)"},
		{"f\ta\n", "(apply@0 f@0 a@2)"},
	} {
		if got := expression(t, c.text); got != c.want {
			t.Errorf("%q is read as %s, want %s", c.text, got, c.want)
		}
	}
}

func TestLevels(t *testing.T) {
	ninetyNine := strings.Repeat("(s ", 99) + "u" + strings.Repeat(")", 99)
	for _, c := range []struct{ text, want string }{
		{"0", "0"},
		{"3", "(s (s (s 0)))"},
		{"u", "u"},
		{"u.v'", "u.v'"},
		{"(u)", "u"},
		{"((3))", "(s (s (s 0)))"},
		{"u+0", "u"},
		{"u+0+0", "u"},
		{"u+2", "(s (s u))"},
		{"u + 1 + 2", "(s (s (s u)))"},
		{"(u+1)+1", "(s (s u))"},
		{"1+1", "(s (s 0))"},
		{"(1)+1", "(s (s 0))"},
		{"max u v", "(max u v)"},
		{"max 1 0", "(max (s 0) 0)"},
		{"imax u v", "(imax u v)"},
		{"max(u)(v)", "(max u v)"},
		{"max (u+1) (imax v 2)", "(max (s u) (imax v (s (s 0))))"},
		{"(max u v)+1", "(s (max u v))"},
		{"(imax u v)+1+1", "(s (s (imax u v)))"},
		{"u+99", ninetyNine},
		{"u+98+1", ninetyNine},
		{"(u+49)+50", ninetyNine},
		{"((u+33)+33)+33+0", ninetyNine},
		{"(max (u+99) 99)+99", strings.Replace(ninetyNine, "u", "(max "+ninetyNine+" "+strings.Replace(ninetyNine, "u", "0", 1)+")", 1)},
	} {
		if got := expression(t, "f.{"+c.text+"}"); got != "f{ "+c.want+" }@0" {
			t.Errorf("%q is read as %s, want %s", c.text, got, c.want)
		}
		if got := expression(t, "Sort ("+c.text+")"); got != "(sort@0 "+c.want+")" {
			t.Errorf("%q is read as %s, want %s", c.text, got, c.want)
		}
	}
}

func TestNumbers(t *testing.T) {
	for n := range 100 {
		text := strconv.Itoa(n)
		want := strings.Repeat("(s ", n) + "0" + strings.Repeat(")", n)
		if got := expression(t, "Sort "+text); got != "(sort@0 "+want+")" {
			t.Errorf("Sort %d is %s", n, got)
		}
		if n < 99 {
			if got := expression(t, "Type "+text); got != "(sort@0 (s "+want+"))" {
				t.Errorf("Type %d is %s", n, got)
			}
		}
		if c := parsed(t, "theorem t : A by constructor "+text+".")[0]; c.Tactics[0].Number != n {
			t.Errorf("constructor %d has %d", n, c.Tactics[0].Number)
		}
	}
}

func TestCommands(t *testing.T) {
	for _, c := range []struct{ text, want string }{
		{"axiom a : A.", "1@0 a : A@10"},
		{" axiom a.b.{u} : A .", "1@1 a.b .u : A@17"},
		{"axiom a.{u, v} (x : A) {y z : B} (w : C) : D.", "1@0 a .u .v [x A@20] [{y} B@30] [{z} B@30] [w C@38] : D@43"},
		{"def a : A := b.", "2@0 a : A@8 := b@13"},
		{"def a.{u}(x : A): B:=fun y=>x.", "2@0 a .u [x A@14] : B@18 := (fun@25 y _@25 x@28)"},
		{"theorem a : A := b.", "3@0 a : A@12 := b@17"},
		{"theorem a.{u} (x y : A) : B := b.", "3@0 a .u [x A@21] [y A@21] : B@26 := b@31"},
		{"theorem a : A by refl.", "3@0 a : A@12 by <5@17>"},
		{"inductive I : Type.", "4@0 I : (sort@14 (s 0))"},
		{"inductive I : Prop | c : I | d.e : A -> I.", "4@0 I : (sort@14 0) |c@21 I@25 |d.e@29 (forall@37 -> A@35 I@40)"},
		{"inductive I.{u} {A : Sort u} (a : A) : A -> Prop | refl : I a a.", "4@0 I .u [{A} (sort@21 u)] [a A@34] : (forall@41 -> A@39 (sort@44 0)) |refl@51 (apply@58 (apply@58 I@58 a@60) a@62)"},
	} {
		cs := parsed(t, c.text)
		if len(cs) != 1 || shownCommand(cs[0]) != c.want {
			t.Errorf("%q is read as %s, want %s", c.text, shownCommand(cs[0]), c.want)
		}
	}
}

func TestTactics(t *testing.T) {
	const ahead = "theorem a : A by "
	for _, c := range []struct{ text, want string }{
		{"intro x", "<1@17 x>"},
		{"intro x y.z w", "<1@17 x y.z w>"},
		{"exact f x", "<2@17 (apply@23 f@23 x@25)>"},
		{"apply fun x => x", "<3@17 (fun@27 x _@27 x@32)>"},
		{"assumption", "<4@17>"},
		{"refl", "<5@17>"},
		{"induction x", "<6@17 x>"},
		{"cases x", "<7@17 x>"},
		{"rewrite @f", "<8@17 @f@25>"},
		{"have x : A -> B", "<9@17 x (forall@28 -> A@26 B@31)>"},
		{"constructor 2", "<10@17 #2>"},
		{"exists a = b", "<11@17 (apply@26 (apply@26 =Eq@26 a@24) b@28)>"},
		{"simpl", "<12@17>"},
		{"symm", "<13@17>"},
		{"intro x;exact x ; symm", "<1@17 x> <2@25 x@31> <13@35>"},
		{"exact intro; intro exact exact", "<2@17 intro@23> <1@30 exact exact>"},
	} {
		cs := parsed(t, ahead+c.text+".")
		if got := shownCommand(cs[0]); len(cs) != 1 || got != "3@0 a : A@12 by "+c.want {
			t.Errorf("%q is read as %s, want %s", c.text, got, c.want)
		}
	}
}

func TestFiles(t *testing.T) {
	for _, text := range []string{"", " ", "\n\t \n", "-- a", "-- axiom a : A.\n--\n  --", "--\n"} {
		if cs, err := Parse(text); len(cs) != 0 || err != nil {
			t.Errorf("Parse(%q): %d commands, %v", text, len(cs), err)
		}
	}
	cs := parsed(t, "axiom a : A. --\ndef b : B := c.-- d\n\ntheorem e : F by refl. inductive G:Prop.")
	var got []string
	for _, c := range cs {
		got = append(got, shownCommand(c))
	}
	want := "1@0 a : A@10; 2@16 b : B@24 := c@29; 3@37 e : F@49 by <5@54>; 4@60 G : (sort@72 0)"
	if all := strings.Join(got, "; "); all != want {
		t.Errorf("read as %s, want %s", all, want)
	}
}

// Without a blank behind its dot, a command's last name goes on.
func TestDotsWithoutBlanks(t *testing.T) {
	_, err := Parse("axiom a : A.axiom b : B.")
	if code, at := api.Code(err); code != api.FText || at != 20 {
		t.Errorf("fault %d at %d, want %d at 20", code, at, api.FText)
	}
	for _, text := range []string{"axiom a : (A).axiom b : B.", "axiom a : Sort 1.axiom b : B.", "axiom a : _.axiom b : B.", "axiom a : A.{u}.axiom b : B."} {
		if cs := parsed(t, text); len(cs) != 2 || cs[1].Name != "b" {
			t.Errorf("%q: %d commands", text, len(cs))
		}
	}
}
