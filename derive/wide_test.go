package derive

import (
	"strconv"
	"testing"

	"provekernel/api"
	"provekernel/check"
	"provekernel/kernel"
	"provekernel/reduce"
	"provekernel/term"
	"provekernel/tree"
)

// wideWorld knows types A0, A1, .. and a function f of functions of each of these.
func wideWorld(t testing.TB, wide int) *reduce.Env {
	t.Helper()
	env, typ := "(axiom N () (sort (s 0)))(axiom c () (const N))", "(const N)"
	for j := wide - 1; j >= 0; j-- {
		name := "A" + strconv.Itoa(j)
		env += "(axiom " + name + " () (sort (s 0)))"
		typ = "(pi (pi (const " + name + ") (const N)) " + typ + ")"
	}
	e, _, err := kernel.File(env+"(axiom f () "+typ+")", 100)
	if err != nil {
		t.Fatal(said(err))
	}
	return e
}

// wideLets are n lets, one within another, each of whose values stands under binders of all these types.
func wideLets(wide, n int) api.Term {
	body := named("f")
	for j := range wide {
		body = spine(body, joined(api.Lam, named("A"+strconv.Itoa(j)), tree.Variable(1)))
	}
	return nested(n, named("c"), func(x api.Term) api.Term { return joined(api.Let, named("N"), x, body) })
}

// Lets within lets ask for steps in as many contexts as there are ways through their binders; there are no more steps than
// that: none derives what another one does, but for the first ones.
func TestWideLets(t *testing.T) {
	for _, c := range []struct{ wide, n int }{{2, 2}, {2, 7}, {4, 4}, {8, 4}, {16, 3}} {
		e, made := wideWorld(t, c.wide), wideLets(c.wide, c.n)
		l := looker{e, nil}
		ss, got := l.of(t, made, 100)
		if got != right {
			t.Errorf("%d lets, under %d binders: %s", c.n, c.wide, got)
			continue
		}
		contexts, ways := map[string]int{}, 0
		for i, s := range ss {
			key := ""
			for _, typ := range s.Ctx {
				key += typ.Name + " "
			}
			contexts[key]++
			if i >= mostPlain {
				contexts[key+": "+term.Print(s.Term)]++
			}
		}
		for deep, there := 0, 1; deep <= c.n; deep, there = deep+1, there*c.wide {
			ways += there
		}
		found := 0
		for key, n := range contexts {
			if key == "" || key[len(key)-1] == ' ' {
				found++
			} else if n > 1 {
				t.Errorf("%d lets, under %d binders: %d steps derive %s", c.n, c.wide, n, key)
			}
		}
		if found != ways {
			t.Errorf("%d lets, under %d binders: %d contexts, want %d", c.n, c.wide, found, ways)
		}
	}
}

// telescopes: an environment with a type G of a proposition that hangs on a product of so many, and a term that asks for G of
// one and the same proposition n times, ever deeper: each time it is another term.
func telescopes(t testing.TB, wide, n int) (*reduce.Env, api.Term) {
	t.Helper()
	inner := sort(succ(api.Level{}))
	for i := range wide {
		inner = joined(api.Pi, tree.Variable(wide-1-i), inner)
	}
	typ := joined(api.Pi, sort(api.Level{}), spine(joined(api.Lam, sort(succ(succ(api.Level{}))), sort(succ(api.Level{}))), inner))
	e := reduce.New()
	if err := kernel.Add(e, api.Decl{Kind: api.Axiom, Name: "G", Type: typ}, 10000); err != nil {
		t.Fatal(said(err))
	}
	made := sort(api.Level{})
	for i := range n {
		made = joined(api.Pi, spine(named("G"), tree.Variable(n-1-i)), made)
	}
	return e, joined(api.Lam, sort(api.Level{}), made)
}

// Large types that are others in each context take up the room of their own lists, and hardly more.
func TestTypesThatAreOthersInEachContext(t *testing.T) {
	const wide, n = 900, 300
	e, made := telescopes(t, wide, n)
	if _, err := check.Infer(e, nil, nil, made, 1000); err != nil {
		t.Fatal(said(err))
	}
	lists := 2 * wide * n * termBytes
	if ss, err := derived(e, made, 1000, lists); ss != nil || said(err) != "FTired" {
		t.Errorf("in too little room: %s, with %d steps", said(err), len(ss))
	}
	ss, err := derived(e, made, 1000, lists+lists/8)
	if err != nil || len(ss) > 4*n+mostPlain {
		t.Fatalf("%s, with %d steps", said(err), len(ss))
	}
	l := looker{e, nil}
	for i := 0; i < len(ss); i += 11 {
		if why := l.wrong(ss, i); why != "" {
			t.Errorf("step %d: %.300s", i, why)
		}
	}
	small, term := telescopes(t, 40, 60)
	if _, got := (looker{small, nil}).of(t, term, 1000); got != right {
		t.Errorf("a smaller one: %s", got)
	}
}
