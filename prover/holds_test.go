package prover_test

import (
	"strings"
	"testing"

	"provekernel/api"
	"provekernel/check"
	"provekernel/derive"
	"provekernel/kernel"
	"provekernel/level"
	"provekernel/prover"
	"provekernel/reduce"
	"provekernel/term"
	"provekernel/tree"
)

// plenty: fuel with which nothing that is drawn tires.
const plenty = 100000

// holds tests what comes of a text of which something was added, from that declaration on: the kernel and the small checker find
// the export right, the rules derive each value's type, and a term keeps its type in its normal form.
func holds(t *testing.T, what string, r prover.Report, fuel, from int) {
	t.Helper()
	if r.Added != len(r.Names) || r.Added != strings.Count(r.Text, "\n") {
		t.Errorf("%s: %d added, %d names", what, r.Added, len(r.Names))
	}
	e, n, err := kernel.File(r.Text, fuel)
	if n != r.Added || err != nil {
		t.Errorf("%s: the kernel finds %d of %d right, %s", what, n, r.Added, shown(err))
		return
	}
	if n, err := prover.Recheck(r.Text, fuel); n != r.Added || err != nil {
		t.Errorf("%s: the small checker finds %d of %d right, %s", what, n, r.Added, shown(err))
	}
	if again := kernel.Export(e); again != r.Text {
		t.Errorf("%s: what is exported is read as something else", what)
	}
	for i, d := range e.Decls() {
		if d.Name != r.Names[i] {
			t.Errorf("%s: %s is told as %s", what, d.Name, r.Names[i])
		}
		if i < from {
			continue
		}
		if d.Kind == api.Def {
			derives(t, what, e, d, fuel)
			keepsType(t, what, e, d)
		}
		keepsSort(t, what, e, d)
	}
}

// derives tests that a definition's value has a derivation that ends in its type.
func derives(t *testing.T, what string, e *reduce.Env, d api.Decl, fuel int) {
	t.Helper()
	ss, err := derive.Of(e, d.Params, d.Value, fuel)
	if err != nil || len(ss) == 0 {
		t.Errorf("%s: %s is not derived: %s", what, d.Name, shown(err))
		return
	}
	last := ss[len(ss)-1]
	if !tree.Same(&last.Term, &d.Value) || len(last.Ctx) > 0 {
		t.Errorf("%s: of %s something else is derived", what, d.Name)
	}
	if equal, err := e.Equal(last.Type, d.Type, fuel); !equal || err != nil {
		t.Errorf("%s: %s is derived with the type %s, %s", what, d.Name, term.Print(last.Type), shown(err))
	}
	for i, s := range ss {
		for _, prem := range s.Prems {
			if prem < 0 || prem >= i {
				t.Errorf("%s: step %d of %s stands on %d", what, i, d.Name, prem)
			}
		}
	}
}

// keepsType tests that a definition's value in normal form has its type.
func keepsType(t *testing.T, what string, e *reduce.Env, d api.Decl) {
	t.Helper()
	form, _, err := e.Normal(d.Value, plenty)
	if err != nil || tree.Parts(&form) > 10000 {
		return
	}
	typ, err := check.Infer(e, d.Params, nil, form, plenty)
	if err != nil {
		t.Errorf("%s: the normal form of %s, %s, has no type: %s", what, d.Name, term.Print(form), shown(err))
		return
	}
	if equal, err := e.Equal(typ, d.Type, plenty); !equal || err != nil {
		t.Errorf("%s: the normal form of %s, %s, has the type %s, %s", what, d.Name, term.Print(form), term.Print(typ), shown(err))
	}
}

// keepsSort tests that a declaration's type in normal form has its sort.
func keepsSort(t *testing.T, what string, e *reduce.Env, d api.Decl) {
	t.Helper()
	form, _, err := e.Normal(d.Type, plenty)
	if err != nil || tree.Parts(&form) > 10000 {
		return
	}
	l, err := check.Sort(e, d.Params, nil, d.Type, plenty)
	if err != nil {
		t.Errorf("%s: the type of %s has no sort: %s", what, d.Name, shown(err))
		return
	}
	other, err := check.Sort(e, d.Params, nil, form, plenty)
	if err != nil || !level.Same(l, other) {
		t.Errorf("%s: the type of %s, %s, has another sort in its normal form, %s: %s", what, d.Name, term.Print(d.Type), term.Print(form), shown(err))
	}
}
