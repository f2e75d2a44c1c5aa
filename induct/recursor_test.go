package induct

import (
	"reflect"
	"strings"
	"testing"

	"provekernel/api"
	"provekernel/reduce"
	"provekernel/term"
)

// Each family of the world, in an environment with those ahead of it.
func TestRecursorsOfTheWorld(t *testing.T) {
	e := reduce.New()
	for _, f := range families {
		d := declared(t, f[0])[0]
		tellsAll(t, e, 100, []pair{{f[0], f[1]}})
		params, typ, err := Decl(e, d, 100)
		if err != nil {
			t.Fatal(err)
		}
		sharesNothing(t, d, params, typ)
		e.Put(d, params, typ)
	}
	for _, text := range []string{
		familyText("(u) 0 (sort 0)", "(const A u)", "(const A u)"),
		familyText("(u v) 1 (pi (sort (max u v)) (pi #0 (sort (s (max u v)))))", "(pi (sort (max u v)) (pi #0 (pi (pi (const Nat) (pi (sort (imax u v)) (app (app (const A u v) #3) #2))) (app (app (const A u v) #2) (app (lam #2 #0) #1)))))"),
	} {
		d := declared(t, text)[0]
		params, typ, err := Decl(e, d, 100)
		if err != nil {
			t.Fatal(err)
		}
		sharesNothing(t, d, params, typ)
	}
}

func TestLargeFamilies(t *testing.T) {
	const large, small = true, false
	e := world(t)
	for _, c := range []struct {
		text  string
		large bool
	}{
		// Of a sort that is never 0.
		{of(set), large},
		{of(set, a, a), large},
		{of(set, "(pi (const Nat) (const A))", "(pi (sort 0) (const A))"), large},
		{familyText("(u) 0 (sort (max (s 0) u))", "(pi (const Nat) (const A u))"), large},
		{familyText("(u) 0 (sort (imax u (s 0)))", "(const A u)", "(const A u)"), large},
		// Of the sort 0, with no constructor, with two.
		{of(prop), large},
		{of("(pi (const Nat) (sort 0))"), large},
		{familyText("(u) 0 (sort (imax u 0))"), large},
		{of(prop, a, a), small},
		{of(prop, a, "(pi (const A) (const A))"), small},
		{familyText("(u) 0 (sort (imax u 0))", "(const A u)", "(const A u)"), small},
		// With one, whose arguments are proofs.
		{of(prop, a), large},
		{of(prop, "(pi (const A) (const A))"), large},
		{of(prop, "(pi (const False) (pi (app (const P) (const zero)) (const A)))"), large},
		{of(prop, "(pi (pi (const Big) (const False)) (const A))"), large},
		{of(prop, "(pi (pi (const Nat) (const A)) (const A))"), large},
		{familyText("(u) 0 (sort 0)", "(pi (const Any (imax u 0)) (const A u))"), large},
		{of(prop, "(pi (app (app (const id (s 0)) (sort 0)) (const False)) (const A))"), large},
		// .. whose are not.
		{of(prop, "(pi (const Nat) (const A))"), small},
		{of(prop, "(pi (sort 0) (const A))"), small},
		{of(prop, "(pi (pi (const False) (const Nat)) (const A))"), small},
		{of(prop, "(pi (const False) (pi (const Nat) (const A)))"), small},
		{of(prop, "(pi (const Nat) (pi (const False) (const A)))"), small},
		{familyText("(u) 0 (sort 0)", "(pi (const Any u) (const A u))"), small},
		{familyText("(u) 0 (sort 0)", "(pi (const Any (imax (s 0) u)) (const A u))"), small},
		// .. whose stand among the indices.
		{of("(pi (const Nat) (sort 0))", "(pi (const Nat) (app (const A) #0))"), large},
		{of("(pi (const Nat) (sort 0))", "(pi (const Nat) (app (const A) (app (const succ) #0)))"), small},
		{of("(pi (const Nat) (sort 0))", "(pi (const Nat) (app (const A) (app (lam (const Nat) #0) #0)))"), small},
		{of("(pi (const Nat) (sort 0))", "(pi (const Nat) (app (const A) (const zero)))"), small},
		{of("(pi (const Nat) (sort 0))", "(pi (const Nat) (pi (const Nat) (app (const A) #0)))"), small},
		{of("(pi (const Nat) (sort 0))", "(pi (const Nat) (pi (const Nat) (app (const A) #1)))"), small},
		{of("(pi (const Nat) (sort 0))", "(pi (const Nat) (pi (const False) (app (const A) #1)))"), large},
		{of("(pi (const Nat) (pi (const Nat) (sort 0)))", "(pi (const Nat) (pi (const Nat) (app (app (const A) #0) #1)))"), large},
		{of("(pi (const Nat) (pi (const Nat) (sort 0)))", "(pi (const Nat) (app (app (const A) (const zero)) #0))"), large},
		{of("(pi (const Nat) (pi (const Nat) (sort 0)))", "(pi (const Nat) (pi (const Nat) (app (app (const A) #1) #1)))"), small},
		{of("(pi (sort (s 0)) (pi #0 (sort 0)))", "(pi (sort (s 0)) (pi #0 (app (app (const A) #1) #0)))"), large},
		{familyText("() 1 (pi (const Nat) (pi (const Nat) (sort 0)))", "(pi (const Nat) (pi (const Nat) (app (app (const A) #1) #0)))"), large},
		{familyText("() 1 (pi (const Nat) (pi (const Nat) (sort 0)))", "(pi (const Nat) (pi (const Nat) (app (app (const A) #1) #1)))"), small},
		// The parameters are no arguments.
		{familyText("() 1 (pi (const Nat) (sort 0))", "(pi (const Nat) (app (const A) #0))"), large},
		{familyText("() 1 (pi (sort (s 0)) (sort 0))", "(pi (sort (s 0)) (pi #0 (app (const A) #1)))"), small},
		{familyText("() 1 (pi (sort 0) (sort 0))", "(pi (sort 0) (pi #0 (app (const A) #1)))"), large},
	} {
		d := declared(t, c.text)[0]
		params, typ, err := Decl(e, d, 1000)
		if err != nil {
			code, _ := api.Code(err)
			t.Errorf("Decl(%s) = %s", c.text, codeText(code))
			continue
		}
		if isLarge := len(params) > len(d.Params); isLarge != c.large || isLarge != strings.Contains(term.Print(typ), "(sort r)") {
			t.Errorf("Decl(%s) = %s", c.text, recursorText(params, typ))
		}
	}
}

func TestNamesOfTheParameter(t *testing.T) {
	e := world(t)
	for us, want := range map[string]string{
		"": "r", "u": "r u", "u v": "r u v", "v u": "r v u", "r": "r1 r", "u r": "r1 u r", "r1": "r r1", "r r1": "r2 r r1", "r1 r": "r2 r1 r", "r r2": "r1 r r2",
		"r2 r1 r": "r3 r2 r1 r", "r r1 r2 r3 r4 r5": "r6 r r1 r2 r3 r4 r5", "r0 R rr": "r r0 R rr", "A c r": "r1 A c r",
	} {
		first, _, _ := strings.Cut(want, " ")
		itself := "(const A " + us + ")"
		if us == "" {
			itself = a
		}
		tellsAll(t, e, 100, []pair{
			{familyText("(" + us + ") 0 (sort (s 0))"), want + ": (pi (pi " + itself + " (sort " + first + ")) (pi " + itself + " (app #1 #0)))"},
			{familyText("("+us+") 0 (sort 0)", itself, itself), us + ": (pi (pi " + itself + " (sort 0)) (pi (app #0 " + strings.Replace(itself, "A", "c", 1) + ") (pi (app #1 " + strings.Replace(itself, "A", "c'", 1) + ") (pi " + itself + " (app #3 #0)))))"},
		})
	}
}

func TestRecursors(t *testing.T) {
	tellsAll(t, world(t), 1000, []pair{
		// No constructor: parameters, indices.
		{familyText("() 1 (pi (const Nat) (sort (s 0)))"), "r: (pi (const Nat) (pi (pi (app (const A) #0) (sort r)) (pi (app (const A) #1) (app #1 #0))))"},
		{of("(pi (const Nat) (sort (s 0)))"), "r: (pi (pi (const Nat) (pi (app (const A) #0) (sort r))) (pi (const Nat) (pi (app (const A) #0) (app (app #2 #1) #0))))"},
		{
			familyText("(u) 1 (pi (sort u) (pi #0 (pi #1 (sort 0))))"),
			"r u: (pi (sort u) (pi (pi #0 (pi #1 (pi (app (app (app (const A u) #2) #1) #0) (sort r)))) (pi #1 (pi #2 (pi (app (app (app (const A u) #3) #1) #0) (app (app (app #3 #2) #1) #0))))))",
		},
		// The parameters' types are the family's, not the constructor's; the arguments' are as they are written.
		{
			familyText("() 1 (pi (const N) (sort (s 0)))", "(pi (const Nat) (pi "+idNat+" (app (const A) #1)))"),
			"r: (pi (const N) (pi (pi (app (const A) #0) (sort r)) (pi (pi " + idNat + " (app #1 (app (app (const c) #2) #0))) (pi (app (const A) #2) (app #2 #0)))))",
		},
		// The indices' types are as they are written, too, and so is what the constructor has in their place.
		{
			of("(pi (const N) (sort (s 0)))", "(app (const A) (app (lam (const N) #0) (const one)))"),
			"r: (pi (pi (const N) (pi (app (const A) #0) (sort r))) (pi (app (app #0 (app (lam (const N) #0) (const one))) (const c)) (pi (const N) (pi (app (const A) #0) (app (app #3 #1) #0)))))",
		},
		// Hypotheses stand behind all arguments, in the order of these.
		{
			of(set, "(pi (const A) (pi (const Nat) (pi (const A) (const A))))"),
			"r: (pi (pi (const A) (sort r)) (pi (pi (const A) (pi (const Nat) (pi (const A) (pi (app #3 #2) (pi (app #4 #1) (app #5 (app (app (app (const c) #4) #3) #2))))))) (pi (const A) (app #2 #0))))",
		},
		// .. of functions, whose types know the arguments ahead; of the second constructor, behind the first one's minor.
		{
			of(set, a, "(pi (const Nat) (pi (pi (app (const P) #0) (pi (app (const P) #1) (const A))) (pi (const Nat) (const A))))"),
			"r: (pi (pi (const A) (sort r)) (pi (app #0 (const c)) (pi (pi (const Nat) (pi (pi (app (const P) #0) (pi (app (const P) #1) (const A))) (pi (const Nat) " +
				"(pi (pi (app (const P) #2) (pi (app (const P) #3) (app #6 (app (app #3 #1) #0)))) (app #5 (app (app (app (const c') #3) #2) #1)))))) (pi (const A) (app #3 #0)))))",
		},
		// .. with parameters, with indices that know the function's arguments.
		{
			familyText("() 1 (pi (sort (s 0)) (pi (const Nat) (sort (s 0))))", "(pi (sort (s 0)) (pi (pi (const Nat) (pi #1 (app (app (const A) #2) (app (const succ) #1)))) (app (app (const A) #1) (const zero))))"),
			"r: (pi (sort (s 0)) (pi (pi (const Nat) (pi (app (app (const A) #1) #0) (sort r))) (pi (pi (pi (const Nat) (pi #2 (app (app (const A) #3) (app (const succ) #1)))) " +
				"(pi (pi (const Nat) (pi #3 (app (app #3 (app (const succ) #1)) (app (app #2 #1) #0)))) (app (app #2 (const zero)) (app (app (const c) #3) #1)))) (pi (const Nat) (pi (app (app (const A) #3) #0) (app (app #3 #1) #0))))))",
		},
		// What is bound within a type stays.
		{
			familyText("() 1 (pi (sort (s 0)) (sort (s 0)))", "(pi (sort (s 0)) (pi (pi #0 (pi #1 (let (const Type) #2 #0))) (app (const A) #1)))"),
			"r: (pi (sort (s 0)) (pi (pi (app (const A) #0) (sort r)) (pi (pi (pi #1 (pi #2 (let (const Type) #3 #0))) (app #1 (app (app (const c) #2) #0))) (pi (app (const A) #2) (app #2 #0)))))",
		},
	})
}

// lists gathers every list that a term holds.
func lists(t *api.Term, met map[any]int) {
	if len(t.Args) > 0 {
		met[&t.Args[0]]++
	}
	for i := range t.Args {
		lists(&t.Args[i], met)
	}
	levelLists(t.Levels, met)
}

func levelLists(ls []api.Level, met map[any]int) {
	if len(ls) > 0 {
		met[&ls[0]]++
	}
	for _, l := range ls {
		levelLists(l.Args, met)
	}
}

// What is answered is new: it shares nothing with what was handed over, nor one of its parts with another.
func sharesNothing(t *testing.T, d api.Decl, params []string, typ api.Term) {
	t.Helper()
	met := map[any]int{}
	lists(&d.Type, met)
	for i := range d.Ctors {
		lists(&d.Ctors[i].Type, met)
	}
	lists(&typ, met)
	for _, n := range met {
		if n > 1 {
			t.Errorf("Decl of %s: a list stands in two places", d.Name)
		}
	}
	if len(params) > 0 && len(d.Params) > 0 && &params[len(params)-1] == &d.Params[len(d.Params)-1] {
		t.Errorf("Decl of %s answers the parameters that were handed over", d.Name)
	}
	if !reflect.DeepEqual(typ, parsed(t, term.Print(typ))) {
		t.Errorf("Decl of %s: its recursor's type is not as it would be read", d.Name)
	}
}
