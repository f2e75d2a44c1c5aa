package tree

import (
	"testing"

	"provekernel/api"
)

var (
	zero  = api.Level{}
	one   = api.Level{Kind: api.Succ, Args: []api.Level{zero}}
	u     = api.Level{Kind: api.Param, Name: "u"}
	first = api.Term{Kind: api.Var}
	next  = api.Term{Kind: api.Var, N: 1}
	prop  = api.Term{Kind: api.Sort, Levels: []api.Level{zero}}
	name  = api.Term{Kind: api.Const, Name: "c", Levels: []api.Level{one, u}}
	app   = api.Term{Kind: api.App, Args: []api.Term{first, next}}
	lam   = api.Term{Kind: api.Lam, Args: []api.Term{prop, app}}
	pi    = api.Term{Kind: api.Pi, Args: []api.Term{prop, app}}
	let   = api.Term{Kind: api.Let, Args: []api.Term{prop, name, app}}
)

func all() []api.Term { return []api.Term{first, prop, name, app, lam, pi, let} }

func TestIs(t *testing.T) {
	for i, made := range all() {
		for kind := api.Var; kind <= api.Let; kind++ {
			if Is(&made, kind) != (kind == i) {
				t.Errorf("Is(term %d, %d) = %v", i, kind, Is(&made, kind))
			}
		}
		lacking, more := made, made
		lacking.Args, more.Args = nil, append(more.Args[:len(more.Args):len(more.Args)], first)
		if len(made.Args) > 0 && Is(&lacking, i) || Is(&more, i) {
			t.Errorf("Is of term %d without its parts, or with one more", i)
		}
		more = made
		more.Levels = append(more.Levels[:len(more.Levels):len(more.Levels)], zero)
		if Is(&more, i) != (i == api.Const) {
			t.Errorf("Is of term %d with one more level", i)
		}
	}
	for _, kind := range []int{-1, 7, 99} {
		if Is(&api.Term{Kind: kind}, api.Var) {
			t.Errorf("kind %d is a variable", kind)
		}
	}
}

func TestBinders(t *testing.T) {
	for i, made := range all() {
		for part := range made.Args {
			want := 0
			if i >= api.Lam && part == len(made.Args)-1 {
				want = 1
			}
			if got := Binders(&made, part); got != want {
				t.Errorf("Binders(term %d, part %d) = %d", i, part, got)
			}
		}
	}
}

func TestSame(t *testing.T) {
	other := []api.Term{
		next, app,
		{Kind: api.Sort, Levels: []api.Level{one}},
		{Kind: api.Const, Name: "d", Levels: name.Levels},
		{Kind: api.Const, Name: "c", Levels: []api.Level{u, one}},
		{Kind: api.Const, Name: "c", Levels: []api.Level{one}},
		{Kind: api.App, Args: []api.Term{next, first}},
		{Kind: api.App, Args: []api.Term{first}},
		{Kind: api.Let, Args: []api.Term{prop, name, lam}},
	}
	for i, a := range append(all(), other...) {
		for j, b := range append(all(), other...) {
			same := i == j || min(i, j) == api.App && max(i, j) == len(all())+1
			if Same(&a, &b) != same {
				t.Errorf("Same(term %d, term %d) = %v", i, j, !same)
			}
		}
		again := a
		again.Args = append([]api.Term{}, a.Args...)
		again.Levels = append([]api.Level{}, a.Levels...)
		if !Same(&a, &again) {
			t.Errorf("term %d is not the same as a copy of it", i)
		}
	}
	if SameLevel(zero, one) || SameLevel(u, zero) || !SameLevel(one, api.Level{Kind: api.Succ, Args: []api.Level{{}}}) {
		t.Errorf("SameLevel")
	}
}

func TestVariable(t *testing.T) {
	for _, n := range []int{0, 1, 99999} {
		made := Variable(n)
		if !Is(&made, api.Var) || made.N != n {
			t.Errorf("Variable(%d) = %v", n, made)
		}
	}
}

func TestParts(t *testing.T) {
	for i, want := range []int{1, 2, 4, 3, 6, 6, 10} {
		made := all()[i]
		if got := Parts(&made); got != want {
			t.Errorf("term %d has %d parts, want %d", i, got, want)
		}
	}
}
