package derive

import (
	"testing"

	"provekernel/api"
	"provekernel/fault"
	"provekernel/tree"
)

// A large value in very many places is given up before it stands in all of them.
func TestValuesInManyPlaces(t *testing.T) {
	m := &maker{}
	value := within(5000, api.App, tree.Variable(0), named("succ"))
	places := joined(api.Lam, named("Nat"), nested(5000, named("zero"), func(x api.Term) api.Term { return sum(tree.Variable(1), x) }))
	_, err := fault.Caught(func() *node { return m.filled(m.read(&places), m.read(&value)) })
	if said(err) != "FTired" || m.made > 200000 {
		t.Errorf("%s, when %d terms had been made", said(err), m.made)
	}
}

// What is formed has at most so many parts as the layers below form.
func TestTermsOfTooManyParts(t *testing.T) {
	for n, want := range map[int]string{tree.MostParts/2 - 1: right, tree.MostParts/2 + 1: "FTired"} {
		m := &maker{}
		made := within(n, api.App, named("zero"), named("succ"))
		if _, err := fault.Caught(func() *node { return m.read(&made) }); said(err) != want {
			t.Errorf("a number of %d parts: %s, want %s", tree.Parts(&made), said(err), want)
		}
		l := m.rank(api.Zero, "")
		_, err := fault.Caught(func() *node {
			for range 2*n - 2 {
				l = m.rank(api.Succ, "", l)
			}
			return m.sort(l)
		})
		if said(err) != want {
			t.Errorf("a level of some %d parts: %s, want %s", 2*n, said(err), want)
		}
	}
}

// Should two terms that are not the same have one mark, they are not taken for one.
func TestMarksThatAreTheSame(t *testing.T) {
	d := newDeriver(world(t), 100)
	terms := []api.Term{named("zero"), named("true"), named("n"), named("Nat"), sort(api.Level{}), spine(named("succ"), named("zero"))}
	types := []string{"Nat", "Bool", "N", "", "", "Nat"}
	c := d.contexts[0]
	for round := range 2 * mostPlain {
		i := round % len(terms)
		made := d.read(&terms[i])
		made.mark = 7
		at := d.derive(c, made)
		if !tree.Same(&d.steps[at].term.Term, &terms[i]) || d.typ(at).Name != types[i] {
			t.Errorf("round %d: step %d derives another term, or another type", round, at)
		}
		if i == 3 {
			c = d.with(d.contexts[0], made)
		}
		if i == 4 && d.with(d.contexts[0], made).typ != made {
			t.Errorf("round %d: a context has another type", round)
		}
	}
}
