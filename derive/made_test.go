package derive

import (
	"testing"

	"provekernel/api"
	"provekernel/fault"
	"provekernel/tree"
)

// A large value in very many places is given up before it stands in all of them.
func TestValuesInManyPlaces(t *testing.T) {
	value := within(5000, api.App, tree.Variable(0), named("succ"))
	places := joined(api.Lam, named("Nat"), nested(5000, named("zero"), func(x api.Term) api.Term { return sum(tree.Variable(1), x) }))
	let := joined(api.Let, named("Nat"), value, places)
	m := newMaker(1 << 30)
	if _, err := fault.Caught(func() *node { return m.unfolded(m.read(&let)) }); said(err) != "FTired" || len(m.nodes) > 200000 {
		t.Errorf("%s, when %d terms had been made", said(err), len(m.nodes))
	}
	y := newTypist(newOutline(1<<30), nil, 0)
	if _, err := fault.Caught(func() *typ { return y.applied(&typ{Term: joined(api.Pi, named("Nat"), places)}, y.read(&value)) }); said(err) != "FTired" || y.worked > 200000 {
		t.Errorf("as a type: %s, when %d terms had been gone through", said(err), y.worked)
	}
}

// What is formed has at most so many parts as the layers below form.
func TestTermsOfTooManyParts(t *testing.T) {
	for n, want := range map[int]string{tree.MostParts/2 - 1: right, tree.MostParts/2 + 1: "FTired"} {
		y := newTypist(newOutline(1<<30), nil, 0)
		made := within(n, api.App, named("zero"), named("succ"))
		if _, err := fault.Caught(func() *node { return y.read(&made) }); said(err) != want {
			t.Errorf("a number of %d parts: %s, want %s", tree.Parts(&made), said(err), want)
		}
		if _, err := fault.Caught(func() *typ { return y.measured(made) }); said(err) != want {
			t.Errorf("a type of %d parts: %s, want %s", tree.Parts(&made), said(err), want)
		}
		l := api.Level{}
		for range 2*n - 2 {
			l = succ(l)
		}
		sorted := sort(l)
		if _, err := fault.Caught(func() *node { return y.read(&sorted) }); said(err) != want {
			t.Errorf("a level of some %d parts: %s, want %s", 2*n, said(err), want)
		}
		if _, err := fault.Caught(func() *typ { return y.sort(l, 2*n-1) }); said(err) != want {
			t.Errorf("as a type, a level of some %d parts: %s, want %s", 2*n, said(err), want)
		}
	}
}

// Terms that are not the same are not taken for one.
func TestNodesThatAreNotTheSame(t *testing.T) {
	m := newMaker(1 << 30)
	u, v := param("u"), param("v")
	terms := []api.Term{
		named("a"), named("a", u), named("a", v), named("a", u, v), named("a", v, u), named("a", succ(u)), named("au"), named("a", api.Level{}), sort(u), sort(v), sort(api.Level{}), tree.Variable(0), tree.Variable(1), tree.Variable(11),
		joined(api.App, named("a"), named("b")), joined(api.App, named("b"), named("a")), joined(api.Lam, named("a"), named("b")), joined(api.Pi, named("a"), named("b")), joined(api.Let, named("a"), named("b"), named("a")),
		joined(api.Let, named("a"), named("a"), named("b")), joined(api.App, joined(api.App, named("a"), named("b")), named("a")), joined(api.App, named("a"), joined(api.App, named("b"), named("a"))),
	}
	for i := range terms {
		for j := range terms {
			if a, b := m.read(&terms[i]), m.read(&terms[j]); (a == b) != (i == j) || m.nodes[a.number] != a {
				t.Errorf("terms %d and %d", i, j)
			}
		}
	}
}
