package induct

import (
	"slices"
	"testing"

	"provekernel/api"
	"provekernel/check"
	"provekernel/reduce"
	"provekernel/term"
	"provekernel/tree"
)

// takesItsSteps: a family that is right, with its recursor, put into an environment like this one: the recursor's type has a
// sort, and applied to each constructor it takes one step, to the minor with the arguments and the hypotheses, which has the
// type that it had.
func takesItsSteps(t *testing.T, from *reduce.Env, d api.Decl) {
	t.Helper()
	e := reduce.New()
	for _, ahead := range from.Decls() {
		params, typ, _ := from.Type(ahead.Name + ".rec")
		e.Put(ahead, params, typ)
	}
	params, typ, err := Decl(e, d, 1000)
	if err != nil {
		t.Errorf("Decl(%s): %v", declText(d), err)
		return
	}
	e.Put(d, params, typ)
	if _, err := check.Sort(e, params, nil, typ, 1000); err != nil {
		code, _ := api.Code(err)
		t.Errorf("Decl(%s): the recursor's type %s has no sort: %s", declText(d), term.Print(typ), codeText(code))
		return
	}
	var ctx []api.Term // parameters, motive, minors
	for range d.Arity + 1 + len(d.Ctors) {
		ctx = append(ctx, typ.Args[0])
		typ = typ.Args[1]
	}
	for i := range d.Ctors {
		stepOf(t, e, d, params, ctx, i)
	}
}

// stepOf: that of constructor number i, in the context of the recursor's parameters, motive and minors.
func stepOf(t *testing.T, e *reduce.Env, d api.Decl, params []string, ctx []api.Term, i int) {
	t.Helper()
	between, typ := len(ctx)-d.Arity, d.Ctors[i].Type
	for range d.Arity {
		typ = typ.Args[1]
	}
	n, recursive := 0, 0
	ctx = slices.Clone(ctx)
	for ; typ.Kind == api.Pi; n++ {
		if term.Has(typ.Args[0], d.Name) {
			recursive++
		}
		ctx = append(ctx, term.Lift(typ.Args[0], between, n))
		typ = typ.Args[1]
	}
	_, as := term.Spine(term.Lift(typ, between, n))
	var vs []api.Term
	for at := range ctx {
		vs = append(vs, tree.Variable(len(ctx)-1-at))
	}
	levels := func(names []string) []api.Level {
		var ls []api.Level
		for _, u := range names {
			ls = append(ls, api.Level{Kind: api.Param, Name: u})
		}
		return ls
	}
	made := term.Apply(api.Term{Kind: api.Const, Name: d.Ctors[i].Name, Levels: levels(d.Params)}, slices.Concat(vs[:d.Arity], vs[len(vs)-n:]))
	whole := term.Apply(api.Term{Kind: api.Const, Name: d.Name + ".rec", Levels: levels(params)}, slices.Concat(vs[:len(vs)-n], as[d.Arity:], []api.Term{made}))
	form, steps, err := e.Whnf(whole, 1000)
	head, given := term.Spine(form)
	if err != nil || steps != 1 || !tree.Same(&head, &vs[d.Arity+1+i]) || len(given) != n+recursive {
		t.Errorf("%s: %s comes to %s in %d steps (%v)", declText(d), term.Print(whole), term.Print(form), steps, err)
		return
	}
	wholeType, err := check.Infer(e, params, ctx, whole, 1000)
	formType, formErr := check.Infer(e, params, ctx, form, 1000)
	want := term.Apply(vs[d.Arity], append(as[d.Arity:], made))
	for _, typ := range []api.Term{wholeType, formType} {
		if equal, _ := e.Equal(typ, want, 1000); err != nil || formErr != nil || !equal {
			t.Errorf("%s: %s is of type %s (%v), its form %s of %s (%v); want %s", declText(d), term.Print(whole), term.Print(wholeType), err, term.Print(form), term.Print(formType), formErr, term.Print(want))
		}
	}
}

func TestStepsOfFamilies(t *testing.T) {
	e := reduce.New()
	for _, f := range families {
		d := declared(t, f[0])[0]
		takesItsSteps(t, e, d)
		params, typ, err := Decl(e, d, 100)
		if err != nil {
			t.Fatal(err)
		}
		e.Put(d, params, typ)
	}
	for _, d := range declared(t, others) {
		e.Put(d, nil, api.Term{})
	}
	for _, text := range []string{
		of(set, a, "(pi (const Nat) (pi (pi (app (const P) #0) (pi (app (const P) #1) (const A))) (pi (const Nat) (const A))))"),
		familyText("() 1 (pi (const N) (sort (s 0)))", "(pi (const Nat) (pi "+idNat+" (app (const A) #1)))"),
		familyText("() 1 (pi (sort (s 0)) (pi (const Nat) (sort (s 0))))", "(pi (sort (s 0)) (pi (pi (const Nat) (pi #1 (app (app (const A) #2) (app (const succ) #1)))) (app (app (const A) #1) (const zero))))"),
		familyText("(a b c d e f) 0 (sort (s (max a (max b (max c (max d (max e f)))))))", "(pi (sort f) (pi (pi (sort e) (const A a b c d e f)) (const A a b c d e f)))"),
		familyText("() 1 (pi (const Nat) (sort (s 0)))", "(pi (app (lam (sort (s 0)) (const Nat)) (app (const A) (const zero))) (pi (app (const A) #0) (app (const A) #1)))"),
		familyText("(r) 0 (pi (sort r) (sort 0))", "(pi (sort r) (app (const A r) #0))", "(pi (sort r) (pi (app (const A r) #0) (app (const A r) #1)))"),
	} {
		takesItsSteps(t, e, declared(t, text)[0])
	}
}

// Sums by the recursor that Decl makes, and lengths of lists.
func TestSums(t *testing.T) {
	e := reduce.New()
	for _, f := range families[:3] {
		d := declared(t, f[0])[0]
		params, typ, err := Decl(e, d, 100)
		if err != nil {
			t.Fatal(err)
		}
		e.Put(d, params, typ)
	}
	for _, c := range []struct {
		text, want string
		steps      int
	}{
		{
			"(app (app (app (app (const Nat.rec (s 0)) (lam (const Nat) (const Nat))) (app (const succ) (const zero))) (lam (const Nat) (lam (const Nat) (app (const succ) #0)))) (app (const succ) (const zero)))",
			"(app (const succ) (app (const succ) (const zero)))", 4,
		},
		{
			"(app (app (app (app (app (const List.rec (s 0) 0) (const Nat)) (lam (app (const List 0) (const Nat)) (const Nat))) (const zero)) (lam (const Nat) (lam (app (const List 0) (const Nat)) (lam (const Nat) (app (const succ) #0))))) (app (app (app (const cons 0) (const Nat)) (const zero)) (app (const nil 0) (const Nat))))",
			"(app (const succ) (const zero))", 5,
		},
	} {
		made := parsed(t, c.text)
		typ, err := check.Infer(e, nil, nil, made, 100)
		if err != nil {
			t.Errorf("%s: %v", c.text, err)
			continue
		}
		if equal, _ := e.Equal(typ, text(nat), 100); !equal {
			t.Errorf("%s is of type %s", c.text, term.Print(typ))
		}
		if form, steps, err := e.Normal(made, 100); err != nil || term.Print(form) != c.want || steps != c.steps {
			t.Errorf("%s comes to %s in %d steps (%v)", c.text, term.Print(form), steps, err)
		}
	}
}
