package elab

import (
	"math/rand"
	"slices"
	"strings"
	"testing"

	"provekernel/api"
	"provekernel/kernel"
	"provekernel/small"
	"provekernel/syntax"
)

// mixer makes commands of parts of others: most of them are wrong, in every way.
type mixer struct {
	*rand.Rand
	exprs []api.Expr // all that stand in the world and in the library
}

func newMixer(t *testing.T, seed int64) *mixer {
	m := &mixer{Rand: rand.New(rand.NewSource(seed))}
	for _, c := range parsed(t, world+library) {
		for _, b := range c.Binders {
			m.collect(b.Type)
		}
		m.collect(c.Type)
		for _, ctor := range c.Ctors {
			m.collect(ctor.Type)
		}
		if c.Kind == api.CDef || c.Kind == api.CTheorem {
			m.collect(c.Value)
		}
	}
	return m
}

func (m *mixer) collect(e api.Expr) {
	m.exprs = append(m.exprs, e)
	for _, arg := range e.Args {
		m.collect(arg)
	}
}

// expr is an expression with others in some places.
func (m *mixer) expr(e api.Expr, depth int) api.Expr {
	switch m.Intn(40) {
	case 0:
		return api.Expr{Kind: api.XHole}
	case 1:
		if depth < 3 {
			return m.expr(m.exprs[m.Intn(len(m.exprs))], depth+1)
		}
	case 2:
		return api.Expr{Kind: api.XApply, Args: []api.Expr{e, m.exprs[m.Intn(len(m.exprs))]}}
	case 3:
		if e.Kind == api.XName {
			e.Explicit = !e.Explicit && !e.Infix
		}
	case 4:
		return api.Expr{Kind: api.XIs, Args: []api.Expr{e, m.exprs[m.Intn(len(m.exprs))]}}
	case 5:
		return api.Expr{Kind: api.XLet, Name: "x", Args: []api.Expr{m.exprs[m.Intn(len(m.exprs))], m.exprs[m.Intn(len(m.exprs))], e}}
	}
	e.Args = slices.Clone(e.Args)
	for i := range e.Args {
		if e.Kind == api.XApply && e.Args[i].Kind == api.XName && e.Args[i].Infix || e.Kind == api.XApply && isEquation(e) && i == 0 {
			continue
		}
		e.Args[i] = m.expr(e.Args[i], depth)
	}
	return e
}

// isEquation tells whether an expression is the sign = between two others.
func isEquation(e api.Expr) bool {
	return e.Args[0].Kind == api.XApply && e.Args[0].Args[0].Kind == api.XName && e.Args[0].Args[0].Infix
}

func (m *mixer) command(c api.Command) api.Command {
	c.Name += "'"
	c.Binders, c.Ctors = slices.Clone(c.Binders), slices.Clone(c.Ctors)
	for i := range c.Binders {
		c.Binders[i].Type = m.expr(c.Binders[i].Type, 0)
	}
	c.Type = m.expr(c.Type, 0)
	if c.Kind == api.CDef || c.Kind == api.CTheorem {
		c.Value = m.expr(c.Value, 0)
	}
	for i := range c.Ctors {
		c.Ctors[i].Name += "'"
		c.Ctors[i].Type = m.expr(c.Ctors[i].Type, 0)
	}
	return c
}

// Any commands, with any fuel: no call panics, all end, and soon; what is added is what the text says, and is right.
func TestMixed(t *testing.T) {
	all := signs{}
	for _, c := range parsed(t, world+library) {
		all.add(&c)
	}
	added := 0
	for seed := range int64(60) {
		m := newMixer(t, seed)
		s := libraryState(t)
		for _, c := range parsed(t, world+library) {
			text := syntax.Print([]api.Command{m.command(c)})
			again := parsed(t, text)[0]
			if err := s.Run(again, []int{0, 1, 10, 100, 3000, 100000}[m.Intn(6)]); err != nil {
				if code, at := api.Code(err); code <= 0 || at < 0 || at >= len(text) {
					t.Errorf("%s: %s", text, shown(err, 0))
				}
				continue
			}
			all.add(&again)
			added++
			ds := s.Env().Decls()
			if !all.command(&again, &ds[len(ds)-1]) {
				t.Errorf("%s becomes something else", text)
			}
		}
		export := kernel.Export(s.Env())
		if n, err := small.Check(export, 100000); err != nil {
			t.Errorf("of %s only %d are right: %s", export, n, shown(err, 0))
		}
	}
	if added < 100 {
		t.Errorf("only %d are added", added)
	}
}

// again is a part as often as that, a middle, what closes it as often.
func again(n int, part, middle, closing string) string {
	return strings.Repeat(part, n) + middle + strings.Repeat(closing, n)
}

// Texts that nest deep, or are long, as far as no term has more than 20000 parts: all in them is found.
func TestLarge(t *testing.T) {
	for _, text := range []string{
		"def a : Nat := " + again(9000, "succ (", "id zero", ")") + ".",
		"def a : Nat := " + again(3000, "id (", "zero", ")") + ".",
		"def a : List Nat := " + again(2300, "cons zero (", "nil", ")") + ".",
		"def a : " + again(3000, "Nat -> ", "Nat", "") + " := fun" + again(3000, " x", "", "") + " => x.",
		"def a : _ := fun" + again(3000, " (x : Nat)", " => x", "") + ".",
		"def a : " + again(1000, "List Nat -> ", "Nat", "") + " := fun" + again(1000, " x", " => zero", "") + ".",
		"def a : Nat := " + again(20000, "(", "id zero", " : Nat)") + ".",
		"def a : Nat := " + again(1000, "let x : _ := succ zero in ", "x", "") + ".",
		"def a : Nat := let x : Nat := zero in " + again(1000, "let x : _ := succ x in ", "id x", "") + ".",
		"def a : Nat := " + again(500, "(fun x => ", "zero", ") zero") + ".",
		"def a : Nat := " + again(2000, "(fun x => x) (", "zero", ")") + ".",
		"def a : Nat := (fun" + again(60, " x", " => succ x)", "") + again(60, " zero", "", "") + ".",
		"axiom a.{u} : Sort (" + again(5000, "(max u ", "u", ")") + ") -> List Nat.",
		"theorem a : " + again(8, "add one (", "one", ")") + " = " + again(9, "succ (", "zero", ")") + " := refl.",
	} {
		if _, fault := ran(t, text, 3000); fault != "right" {
			t.Errorf("%.60s..: %s", text, fault)
		}
	}
}

// Texts that are larger than that, or that no type can be found for: all ends, and no call panics.
func TestTooLarge(t *testing.T) {
	more := "inductive Prod (A B : Type) : Type | mk : A -> B -> Prod A B. def twice (n : Nat) : Nat := add n n. "
	for i, text := range []string{
		"def a : Nat := " + again(30000, "id (", "zero", ")") + ".",
		"def a : List Nat := " + again(15000, "cons zero (", "nil", ")") + ".",
		"def a : " + again(8000, "Nat -> ", "Nat", "") + " := fun" + again(8000, " x", " => x", "") + ".",
		"def a : Nat := (fun" + again(1000, " x", " => succ x)", "") + again(1000, " zero", "", "") + ".",
		"axiom a : forall (" + again(1500, "x ", ": _), x = zero", "") + ".",
		"def a : Nat := id" + again(30000, " zero", "", "") + ".",
		"def a : Nat := " + again(10000, "(zero : id (", "Nat", "))") + ".",
		"def a : Nat := let x : _ := zero in " + again(25, "let x : _ := mk x x in ", "zero", "") + ".",
		"theorem a : " + again(12, "twice (", "one", ")") + " = " + again(12, "twice (", "zero", ")") + " := refl.",
		"theorem a : Exists (fun n => " + again(12, "twice (", "n", ")") + " = " + again(11, "twice (", "one", ")") + ") := intro _ refl.",
		"theorem a : Exists (fun n => " + again(100, "add n (", "n", ")") + " = " + again(100, "add zero (", "one", ")") + ") := intro _ refl.",
		"axiom a:" + again(12000, "forall(a b:", "Nat", "),Nat") + ".",
		"axiom a:" + again(13, "forall(a b:", "_", "),Nat") + ".",
		"axiom a:" + again(12000, "forall(a b:", "_", "),Nat") + ".",
		"def a : Nat := (fun x => x x) (fun x => x x).",
		"def a : Nat := " + again(1000, "_ (", "zero", ")") + ".",
		"def a : Nat := _" + again(300, " zero", "", "") + ".",
		"def a : Nat := _" + again(300, " _", "", "") + ".",
		"axiom a : " + again(60000, "(", "Nat", ")") + ".",
		"axiom a:" + again(66000, "P(", "_", ")") + ".",
		"axiom a : " + again(30000, "_ -> ", "_", "") + ".",
		"axiom a : " + again(20000, "(_ = ", "_", ")") + ".",
		"def a : _ := " + again(10000, "fun x => x (", "x", ")") + ".",
		"axiom a : Sort (" + again(10000, "(imax u ", "u", ")") + ") -> _.",
		"inductive a (" + again(2000, "x ", ": _) : Type", "") + again(200, " | c : _ -> a", "", "") + ".",
	} {
		s := worldState(t)
		for _, c := range parsed(t, more) {
			s.Run(c, 1000)
		}
		c := parsed(t, text)[0]
		before := len(s.Env().Decls())
		if err := s.Run(c, []int{0, 100000}[i%2]); err != nil {
			if code, at := api.Code(err); code <= 0 || at < 0 || at >= len(text) || len(s.Env().Decls()) != before {
				t.Errorf("%.60s..: %s", text, shown(err, 0))
			}
		}
	}
}

// With each fuel from none on a text is added, or there is too little; with more it is not refused again.
func TestFuel(t *testing.T) {
	for _, text := range []string{
		"theorem a : add one one = succ one := refl.", "theorem a : add one one = succ one := @refl.{1} Nat (succ one).", "def a : (fun (A : Type) => A) Nat := id zero.", "theorem a : P (add one (add one one)) := (p : P (succ _)).",
		"theorem a : forall (n : Nat), add n one = succ n := fun n => refl.",
	} {
		enough := false
		for fuel := range 200 {
			_, fault := ran(t, text, fuel)
			if fault != "right" && (enough || fault != "FTired at 0") {
				t.Errorf("%s with %d steps: %s", text, fuel, fault)
			}
			enough = enough || fault == "right"
		}
		if !enough {
			t.Errorf("%s is never added", text)
		}
	}
	if _, fault := ran(t, "def a : Nat := id zero.", -5); fault != "right" {
		t.Errorf("with less fuel than none: %s", fault)
	}
}
