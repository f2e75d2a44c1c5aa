package elab

import (
	"math/rand"
	"slices"
	"strconv"
	"strings"
	"testing"

	"provekernel/api"
	"provekernel/kernel"
	"provekernel/reduce"
	"provekernel/small"
	"provekernel/syntax"
)

// proofs by tactics, behind the world and the library.
const proofs = `theorem p1 (A B : Prop) : And A B -> And B A by intro h; cases h; constructor 1; exact b; exact a.
theorem p2 : forall (n : Nat), add zero n = n by intro m; induction m; refl; simpl; apply (cong succ); exact ih.
theorem p3 (m n : Nat) : add m n = add n m by induction n; rewrite addZero; refl; rewrite addSucc; rewrite (symm ih); refl.
theorem p4.{u} {A : Sort (u+1)} (a b c : List A) : append (append a b) c = append a (append b c) by induction a; refl; exact cong (cons a') ih.
theorem p5 (n : Nat) (h : P n) (v : Vec Nat n) (k : P n -> False) : False by cases v; exact k h; apply k; exact h.
theorem p6 : Exists (fun n => add n one = succ one) by exists one; refl.
theorem p7 (a b c : Nat) (h : a = b) (k : b = c) : a = c by apply trans; exact h; exact k.
theorem p8 (a b c : Nat) (h : a = b) (k : b = c) : c = a by symm; rewrite h; rewrite k; refl.
theorem p9 (f : Nat -> Nat) (h : forall (x : Nat), f (f x) = x) (a : Nat) : f (f (f (f a))) = a by rewrite h; rewrite h; refl.
theorem p10 (A : Prop) (n : Nat) : (n = n -> A) -> A by intro f; have h : n = n; refl; exact f h.
theorem p11 (A : Prop) : Not (Not (Not A)) -> Not A by intro f a; apply f; intro g; apply g; assumption.
theorem p12 (a b c : Nat) (h : Le a b) (g : Le b c) : Le a c by induction g; exact h; apply next; assumption.
theorem p13.{u} {A : Sort u} (R : A -> A -> Prop) (S : A -> Prop) (s : forall (x : A), (forall (y : A), R y x -> S y) -> S x) (x : A) (h : Acc R x) : S x by induction h; apply s; exact ih.
theorem p14 : Exists P by apply intro; exact one; exact p.
theorem p15.{u, v} {A : Sort (u+1)} {B : A -> Sort (v+1)} (s : Sigma B) : s = pair (fst s) (snd s) by cases s; refl.
theorem p16 (n m : Nat) (h : n = m) (Q : Nat -> Prop) : Q n -> Q m by cases h; intro q; exact q.
theorem p17 : forall (n : Nat), Nat.rec (fun x => Prop) False (fun k r => zero = zero) (succ n) by intro n; simpl; refl.
theorem p18 (n m : Nat) (h : n = m) (g : forall (v : Vec Nat m), v = v) : forall (v : Vec Nat n), v = v by rewrite h; exact g.
theorem p19 (n : Nat) (v : Vec Nat n) : List Nat by induction v; exact nil; exact cons b ih.
theorem p20 (A : Prop) : False -> A by intro h; cases h.
`

// proofsState is a state that knows the world, the library and the proofs.
func proofsState(t *testing.T) *State {
	t.Helper()
	s := libraryState(t)
	for _, c := range parsed(t, proofs) {
		if err := s.Run(c, 3000); err != nil {
			t.Fatalf("%s: %s", c.Name, shown(err, c.At))
		}
	}
	return s
}

// tactic is any one, of expressions and names that stand in the proofs.
func (m *mixer) tactic() api.Tactic {
	names := []string{"a", "a'", "b", "c", "h", "k", "n", "m", "x", "v", "ih", "s", "A", "f", "g", "zero", "Nat", "e", "y"}
	made := api.Tactic{Kind: 1 + m.Intn(13)}
	if m.Intn(3) == 0 {
		made.Kind = []int{api.TRefl, api.TAssumption, api.TIntro, api.TCases, api.TApply}[m.Intn(5)]
	}
	switch made.Kind {
	case api.TIntro:
		for range 1 + m.Intn(3) {
			made.Names = append(made.Names, names[m.Intn(len(names))])
		}
	case api.TInduction, api.TCases:
		made.Names = []string{names[m.Intn(len(names))]}
	case api.TConstructor:
		made.Number = m.Intn(4)
	case api.THave:
		made.Names = []string{names[m.Intn(len(names))]}
		made.Exprs = []api.Expr{m.any()}
	case api.TExact, api.TApply, api.TRewrite, api.TExists:
		made.Exprs = []api.Expr{m.any()}
	}
	return made
}

// any expression, or a name, which is more often right.
func (m *mixer) any() api.Expr {
	names := []string{"a", "b", "c", "h", "k", "n", "m", "x", "v", "ih", "s", "f", "g", "zero", "succ", "one", "p", "refl", "cong", "trans", "symm", "addZero", "addSucc", "addComm", "intro", "both", "next", "Nat.rec", "Eq.rec", "cons", "id"}
	switch m.Intn(4) {
	case 0:
		return m.expr(m.exprs[m.Intn(len(m.exprs))], 0)
	case 1:
		f := api.Expr{Kind: api.XName, Name: names[m.Intn(len(names))]}
		return api.Expr{Kind: api.XApply, Args: []api.Expr{f, {Kind: api.XName, Name: names[m.Intn(len(names))]}}}
	}
	return api.Expr{Kind: api.XName, Name: names[m.Intn(len(names))], Explicit: m.Intn(8) == 0}
}

// tactics are those of a proof, with others among them.
func (m *mixer) tactics(ts []api.Tactic) []api.Tactic {
	var made []api.Tactic
	for _, one := range ts {
		switch m.Intn(14) {
		case 0:
			continue
		case 1:
			made = append(made, m.tactic())
			continue
		case 2:
			made = append(made, m.tactic())
		case 3:
			made = append(made, one)
		case 4:
			other := []int{api.TExact, api.TApply, api.TRewrite, api.TExists}
			if slices.Contains(other, one.Kind) {
				one.Kind = other[m.Intn(4)]
			}
		}
		one.Exprs = slices.Clone(one.Exprs)
		for i := range one.Exprs {
			one.Exprs[i] = m.expr(one.Exprs[i], 0)
		}
		made = append(made, one)
	}
	for len(made) == 0 || m.Intn(4) == 0 {
		made = append(made, m.tactic())
	}
	return made
}

// proof is a theorem with something else in its type and in its proof.
func (m *mixer) proof(c api.Command) api.Command {
	c.Name += "'"
	c.Binders = slices.Clone(c.Binders)
	if m.Intn(2) == 0 {
		for i := range c.Binders {
			c.Binders[i].Type = m.expr(c.Binders[i].Type, 0)
		}
		c.Type = m.expr(c.Type, 0)
	}
	c.Tactics = m.tactics(c.Tactics)
	return c
}

// saysType tells whether a theorem's type is what its command says.
func (s signs) saysType(c *api.Command, d *api.Decl) bool {
	axiom, typed := *c, *d
	axiom.Kind, typed.Kind, typed.Value = api.CAxiom, api.Axiom, api.Term{}
	return s.command(&axiom, &typed)
}

// Any proofs, with any fuel: no call panics, all end, and soon; of what is added the type is what the text says, and the kernel and
// the small checker find it right; what is refused is at a place of the text, and leaves the state as it was.
func TestMixedProofs(t *testing.T) {
	all := signs{}
	for _, c := range parsed(t, world+library+proofs) {
		all.add(&c)
	}
	said := map[string]int{}
	for seed := range int64(60) {
		m := newMixer(t, seed)
		s := proofsState(t)
		for _, c := range parsed(t, proofs) {
			text := syntax.Print([]api.Command{m.proof(c)})
			again := parsed(t, text)[0]
			before := len(s.env.Decls())
			err := s.Run(again, []int{0, 1, 10, 100, 3000, 100000}[m.Intn(6)])
			said[strings.Fields(shown(err, 0))[0]]++
			if err != nil {
				if code, at := api.Code(err); code <= 0 || at < 0 || at >= len(text) || len(s.env.Decls()) != before {
					t.Errorf("%s: %s", text, shown(err, 0))
				}
				continue
			}
			all.add(&again)
			if ds := s.env.Decls(); !all.saysType(&again, &ds[len(ds)-1]) {
				t.Errorf("%s becomes something else", text)
			}
		}
		export := kernel.Export(s.Env())
		if n, err := small.Check(export, 100000); err != nil {
			t.Errorf("of %s only %d are right: %s", export, n, shown(err, 0))
		}
	}
	for _, what := range []string{"right", "FName", "FTactic", "FTired"} {
		if said[what] < 10 {
			t.Errorf("%s was hardly said: %v", what, said)
		}
	}
}

// proof writes a definition as a theorem that is proved by intro and exact; false: it cannot be written.
func (s *speller) proof(d api.Decl) (api.Command, bool) {
	s.names, s.fails = nil, false
	c := api.Command{Kind: api.CTheorem, Name: d.Name, Params: d.Params, ByTactics: true}
	n := begins(&d.Type, &d.Value, api.Lam)
	binders := s.Intn(n + 1)
	var typ *api.Term
	c.Binders, typ = s.binders(&d.Type, binders)
	c.Type = s.expr(typ)
	intros := s.Intn(n - binders + 1)
	for i := range intros {
		name := []string{"i" + strconv.Itoa(i), "w"}[s.Intn(2)]
		s.names = append(s.names, name)
		if i == 0 || s.Intn(2) == 0 {
			c.Tactics = append(c.Tactics, api.Tactic{Kind: api.TIntro})
		}
		last := &c.Tactics[len(c.Tactics)-1]
		last.Names = append(last.Names, name)
	}
	value := s.expr(stripped(&d.Value, binders+intros))
	c.Tactics = append(c.Tactics, api.Tactic{Kind: api.TExact, Exprs: []api.Expr{value}})
	return c, !s.fails
}

// prove adds a definition to both, as a proof and as it is, with that fuel in the core: what the kernel says, and what is asked of
// the language held against it.
func (b *both) prove(t *testing.T, d api.Decl, text string, fuel int) string {
	t.Helper()
	c := parsed(t, text)[0]
	want := kernel.Add(b.env, d, fuel)
	got := b.state.Run(c, 30*fuel+1000)
	code, _ := api.Code(want)
	gotCode, at := api.Code(got)
	typ := d
	typ.Kind, typ.Value = api.Axiom, api.Term{}
	typeCode, _ := api.Code(kernel.Add(b.env.Copy(), typ, fuel))
	switch {
	case code == api.FTired && got == nil:
		if err := kernel.Add(b.env, d, 30*fuel+1000); err != nil {
			t.Errorf("%s with %d steps is added, the kernel says %s", text, 30*fuel+1000, shown(err, 0))
		}
	case code == api.FTired, gotCode == api.FName && code != 0:
	case code == 0 && got != nil, code != 0 && got == nil:
		t.Errorf("%s with %d steps: %s, the kernel says %s", text, 30*fuel+1000, shown(got, 0), shown(want, 0))
	case code == typeCode && (gotCode != code || at != 0):
		t.Errorf("%s: %s, the kernel says %s of its type", text, shown(got, 0), shown(want, 0))
	case code != 0 && typeCode == 0 && (gotCode != api.FTactic || at != c.Tactics[len(c.Tactics)-1].At):
		t.Errorf("%s: %s, the kernel says %s of the value", text, shown(got, 0), shown(want, 0))
	}
	return shown(want, 0)
}

// Definitions that are right, and such in which something is another, written as proofs by intro and exact: what the kernel finds
// right with n steps is proved with 30 n + 1000, and is just that; what it refuses is refused, what it says of the type with its
// code, and of the value as a tactic that cannot do it.
func TestSpeltProofs(t *testing.T) {
	lines := declarations(proofsState(t).Env())
	said := map[string]int{}
	for seed := range int64(120) {
		r := rand.New(rand.NewSource(seed))
		b := &both{New(), reduce.New()}
		for _, line := range lines {
			for r.Intn(4) == 0 {
				line = other(r, line)
			}
			d, ok := declarationOf(line)
			if !ok {
				continue
			}
			s := &speller{Rand: r, env: b.env}
			fuel := []int{0, 1, 5, 20, 200, 3000}[r.Intn(6)]
			if d.Kind != api.Def {
				if c, ok := s.command(d); ok {
					b.add(t, d, syntax.Print([]api.Command{c}), fuel)
				}
				continue
			}
			if c, ok := s.proof(d); ok {
				said[strings.Fields(b.prove(t, d, syntax.Print([]api.Command{c}), fuel))[0]]++
			}
		}
		if got, want := kernel.Export(b.state.Env()), kernel.Export(b.env); got != want {
			t.Fatalf("seed %d: there is\n%s\nwant\n%s", seed, got, want)
		}
	}
	for _, what := range []string{"right", "FName", "FParam", "FFun", "FArg", "FSort", "FTired"} {
		if said[what] == 0 {
			t.Errorf("%s was never said: %v", what, said)
		}
	}
}
