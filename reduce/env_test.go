package reduce

import (
	"reflect"
	"slices"
	"strings"
	"testing"

	"provekernel/api"
	"provekernel/file"
	"provekernel/term"
)

// A family for each thing that iota must heed, with the type that its recursor has.
const (
	nat    = "(inductive Nat () 0 (sort (s 0)) (ctor zero (const Nat)) (ctor succ (pi (const Nat) (const Nat))))"
	natRec = "(pi (pi (const Nat) (sort r)) (pi (app #0 (const zero)) (pi (pi (const Nat) (pi (app #2 #0) (app #3 (app (const succ) #1)))) (pi (const Nat) (app #3 #0)))))"

	// bool, but with the constructors' names yes and no: neither parameters nor indices nor recursive arguments.
	boolean    = "(inductive Bool () 0 (sort (s 0)) (ctor yes (const Bool)) (ctor no (const Bool)))"
	booleanRec = "(pi (pi (const Bool) (sort r)) (pi (app #0 (const yes)) (pi (app #1 (const no)) (pi (const Bool) (app #3 #0)))))"

	// lists: a parameter.
	list    = "(inductive List (u) 1 (pi (sort (s u)) (sort (s u))) (ctor nil (pi (sort (s u)) (app (const List u) #0))) (ctor cons (pi (sort (s u)) (pi #0 (pi (app (const List u) #1) (app (const List u) #2))))))"
	listRec = "(pi (sort (s u)) (pi (pi (app (const List u) #0) (sort r)) (pi (app #0 (app (const nil u) #1)) (pi (pi #2 (pi (app (const List u) #3) (pi (app #3 #0) (app #4 (app (app (app (const cons u) #5) #2) #1))))) (pi (app (const List u) #3) (app #3 #0))))))"

	// vectors: an index, too.
	vec    = "(inductive Vec (u) 1 (pi (sort (s u)) (pi (const Nat) (sort (s u)))) (ctor vnil (pi (sort (s u)) (app (app (const Vec u) #0) (const zero)))) (ctor vcons (pi (sort (s u)) (pi (const Nat) (pi #1 (pi (app (app (const Vec u) #2) #1) (app (app (const Vec u) #3) (app (const succ) #2))))))))"
	vecRec = "(pi (sort (s u)) (pi (pi (const Nat) (pi (app (app (const Vec u) #1) #0) (sort r))) (pi (app (app #0 (const zero)) (app (const vnil u) #1)) (pi (pi (const Nat) (pi #3 (pi (app (app (const Vec u) #4) #1) (pi (app (app #4 #2) #0) (app (app #5 (app (const succ) #3)) (app (app (app (app (const vcons u) #6) #3) #2) #1)))))) (pi (const Nat) (pi (app (app (const Vec u) #4) #0) (app (app #4 #1) #0)))))))"

	// trees: a recursive argument that is a function, two parameters, two levels.
	branching    = "(inductive W (u v) 2 (pi (sort (s u)) (pi (pi #0 (sort (s v))) (sort (s (max u v))))) (ctor sup (pi (sort (s u)) (pi (pi #0 (sort (s v))) (pi #1 (pi (pi (app #1 #0) (app (app (const W u v) #3) #2)) (app (app (const W u v) #3) #2)))))))"
	branchingRec = "(pi (sort (s u)) (pi (pi #0 (sort (s v))) (pi (pi (app (app (const W u v) #1) #0) (sort r)) (pi (pi #2 (pi (pi (app #2 #0) (app (app (const W u v) #4) #3)) (pi (pi (app #3 #1) (app #3 (app #1 #0))) (app #3 (app (app (app (app (const sup u v) #5) #4) #2) #1))))) (pi (app (app (const W u v) #3) #2) (app #2 #0))))))"

	// no constructor at all.
	never    = "(inductive False () 0 (sort 0))"
	neverRec = "(pi (pi (const False) (sort r)) (pi (const False) (app #1 #0)))"

	rest = `(def add () (pi (const Nat) (pi (const Nat) (const Nat))) (lam (const Nat) (lam (const Nat) (app (app (app (app (const Nat.rec (s 0)) (lam (const Nat) (const Nat))) #1) (lam (const Nat) (lam (const Nat) (app (const succ) #0)))) #0))))
(def mul () (pi (const Nat) (pi (const Nat) (const Nat))) (lam (const Nat) (lam (const Nat) (app (app (app (app (const Nat.rec (s 0)) (lam (const Nat) (const Nat))) (const zero)) (lam (const Nat) (lam (const Nat) (app (app (const add) #0) #3)))) #0))))
(def one () (const Nat) (app (const succ) (const zero)))
(def two () (const Nat) (app (const succ) (const one)))
(def id (u) (pi (sort u) (pi #0 #1)) (lam (sort u) (lam #0 #0)))
(def pair (u v) (pi (sort u) (pi (sort v) (sort (max u v)))) (lam (sort u) (lam (sort v) (app (app (const P v u) #1) #0))))
(axiom P (u v) (pi (sort v) (pi (sort u) (sort (max u v)))))
(axiom n () (const Nat))
(axiom f () (pi (const Nat) (const Nat)))
(axiom g () (pi (pi (const Nat) (const Nat)) (const Nat)))
(axiom k () (const False))`
)

// put adds the declarations of a text; of a family with a recursor of that type.
func put(t testing.TB, e *Env, text string, params []string, rec string) {
	t.Helper()
	ds, err := file.Parse(text)
	if err != nil {
		t.Fatalf("file.Parse(%.60q): %v", text, err)
	}
	for _, d := range ds {
		var typ api.Term
		if rec != "" {
			typ = parsed(t, rec)
		}
		e.Put(d, params, typ)
	}
}

// world knows the families and constants above.
func world(t testing.TB) *Env {
	t.Helper()
	e := New()
	put(t, e, nat, []string{"r"}, natRec)
	put(t, e, boolean, []string{"r"}, booleanRec)
	put(t, e, list, []string{"r", "u"}, listRec)
	put(t, e, vec, []string{"r", "u"}, vecRec)
	put(t, e, branching, []string{"r", "u", "v"}, branchingRec)
	put(t, e, never, []string{"r"}, neverRec)
	put(t, e, rest, nil, "")
	return e
}

func parsed(t testing.TB, text string) api.Term {
	t.Helper()
	made, err := term.Parse(text)
	if err != nil {
		code, at := api.Code(err)
		t.Fatalf("term.Parse(%.60q): fault %d at %d", text, code, at)
	}
	return made
}

func TestKnown(t *testing.T) {
	e := world(t)
	for _, name := range []string{"Nat", "zero", "succ", "Nat.rec", "List", "nil", "cons", "List.rec", "False", "False.rec", "add", "id", "n", "P"} {
		if !e.Known(name) {
			t.Errorf("%s is not known", name)
		}
	}
	for _, name := range []string{"", "none", "n.rec", "add.rec", "zero.rec", "Nat.rec.rec", "nat", "Na", "u", "r", ".rec"} {
		if e.Known(name) {
			t.Errorf("%s is known", name)
		}
	}
	if New().Known("Nat") || New().Known("") {
		t.Errorf("a new environment knows something")
	}
}

func TestType(t *testing.T) {
	e := world(t)
	for _, c := range []struct{ name, params, typ string }{
		{"n", "", "(const Nat)"},
		{"P", "u v", "(pi (sort v) (pi (sort u) (sort (max u v))))"},
		{"one", "", "(const Nat)"},
		{"id", "u", "(pi (sort u) (pi #0 #1))"},
		{"Nat", "", "(sort (s 0))"},
		{"succ", "", "(pi (const Nat) (const Nat))"},
		{"Nat.rec", "r", natRec},
		{"Vec", "u", "(pi (sort (s u)) (pi (const Nat) (sort (s u))))"},
		{"nil", "u", "(pi (sort (s u)) (app (const List u) #0))"},
		{"W.rec", "r u v", branchingRec},
		{"False.rec", "r", neverRec},
	} {
		params, typ, ok := e.Type(c.name)
		if !ok || strings.Join(params, " ") != c.params || term.Print(typ) != c.typ {
			t.Errorf("Type(%s) = %v, %s, %v", c.name, params, term.Print(typ), ok)
		}
	}
	for _, name := range []string{"", "none", "n.rec"} {
		params, typ, ok := e.Type(name)
		if ok || params != nil || !reflect.DeepEqual(typ, api.Term{}) {
			t.Errorf("Type(%q), that is not there: %v, %v, %v", name, params, typ, ok)
		}
	}
}

func TestDecls(t *testing.T) {
	e := New()
	if ds := e.Decls(); len(ds) != 0 {
		t.Errorf("a new environment has %v", ds)
	}
	e = world(t)
	var want []api.Decl
	for _, text := range []string{nat, boolean, list, vec, branching, never, rest} {
		ds, err := file.Parse(text)
		if err != nil {
			t.Fatal(err)
		}
		want = append(want, ds...)
	}
	if got := e.Decls(); !reflect.DeepEqual(got, want) {
		t.Errorf("Decls are\n%swant\n%s", file.PrintAll(got), file.PrintAll(want))
	}
}

// overwrite fills every list of a term with others, from within.
func overwrite(t api.Term) {
	for i := range t.Args {
		overwrite(t.Args[i])
		t.Args[i] = api.Term{Kind: api.Const, Name: "overwritten"}
	}
	for i := range t.Levels {
		overwriteLevel(t.Levels[i])
		t.Levels[i] = api.Level{Kind: api.Param, Name: "overwritten"}
	}
}

func overwriteLevel(l api.Level) {
	for i := range l.Args {
		overwriteLevel(l.Args[i])
		l.Args[i] = api.Level{Kind: api.Param, Name: "overwritten"}
	}
}

// overwriteDecl does that to a declaration.
func overwriteDecl(d api.Decl) {
	overwrite(d.Type)
	overwrite(d.Value)
	for i := range d.Params {
		d.Params[i] = "overwritten"
	}
	for i := range d.Ctors {
		overwrite(d.Ctors[i].Type)
		d.Ctors[i] = api.Ctor{Name: "overwritten"}
	}
}

// all that an environment tells, and what it reduces, as one text.
func told(t *testing.T, e *Env) string {
	t.Helper()
	lines := []string{file.PrintAll(e.Decls())}
	for _, name := range []string{"W", "sup", "W.rec", "id", "P", "List.rec"} {
		params, typ, ok := e.Type(name)
		if !ok {
			t.Errorf("%s is not known", name)
		}
		lines = append(lines, strings.Join(params, " ")+" "+term.Print(typ))
	}
	for _, text := range []string{"(app (app (const mul) (const two)) (const two))", "(app (const id (s 0)) (const Nat))", "(const pair 0 (s 0))"} {
		form, _, err := e.Normal(parsed(t, text), 1000)
		if err != nil {
			t.Errorf("Normal(%s): %v", text, err)
		}
		lines = append(lines, term.Print(form))
	}
	return strings.Join(lines, "\n")
}

func TestWhatIsPutIsNotKept(t *testing.T) {
	e := New()
	for _, c := range []struct {
		text   string
		params []string
		rec    string
	}{
		{nat, []string{"r"}, natRec},
		{list, []string{"r", "u"}, listRec},
		{branching, []string{"r", "u", "v"}, branchingRec},
		{rest, nil, "#0"},
	} {
		ds, err := file.Parse(c.text)
		if err != nil {
			t.Fatal(err)
		}
		for _, d := range ds {
			params, typ := slices.Clone(c.params), parsed(t, c.rec)
			e.Put(d, params, typ)
			if got := file.Print(d); !strings.Contains(c.text, got) {
				t.Errorf("Put changes what is put: %s", got)
			}
			overwriteDecl(d)
			overwrite(typ)
			for i := range params {
				params[i] = "overwritten"
			}
		}
	}
	if got := told(t, e); strings.Contains(got, "overwritten") {
		t.Errorf("what was put is kept: %s", got)
	}
}

func TestWhatIsToldIsNew(t *testing.T) {
	e := world(t)
	before := told(t, e)
	ds := e.Decls()
	for i, d := range ds {
		overwriteDecl(d)
		ds[i] = api.Decl{Name: "overwritten"}
	}
	for _, name := range []string{"W", "sup", "W.rec", "id", "P", "List.rec", "cons"} {
		params, typ, _ := e.Type(name)
		overwrite(typ)
		for i := range params {
			params[i] = "overwritten"
		}
	}
	if after := told(t, e); after != before {
		t.Errorf("what is told is the environment's own: %s", after)
	}
}

// An environment that nobody made is one that knows nothing.
func TestZeroEnv(t *testing.T) {
	var none *Env
	var zero Env
	for _, e := range []*Env{none, &zero} {
		if _, _, ok := e.Type("n"); ok || e.Known("n") || len(e.Decls()) != 0 {
			t.Errorf("it knows n")
		}
		form, steps, err := e.Whnf(parsed(t, "(app (lam (const n) #0) (const n))"), 1)
		if err != nil || steps != 1 || term.Print(form) != "(const n)" {
			t.Errorf("Whnf: %s, %d, %v", term.Print(form), steps, err)
		}
		e.Put(api.Decl{Kind: api.Axiom, Name: "n"}, nil, api.Term{})
	}
	if !zero.Known("n") {
		t.Errorf("n has not been put")
	}
}

// An environment with one more constant knows what there was, and the one that it was made from knows no more than before.
func TestWith(t *testing.T) {
	e := world(t)
	before := file.PrintAll(e.Decls())
	d, err := file.Parse("(def more (u) (pi (sort u) (sort u)) (lam (sort u) #0)) (axiom other () (const Nat)) (axiom n (u) (sort u))")
	if err != nil {
		t.Fatal(err)
	}
	more := e.With(d[0])
	other := more.With(d[1])
	hidden := e.With(d[2])
	if !more.Known("more") || !other.Known("more") || !other.Known("other") || !other.Known("Nat.rec") || !other.Known("add") {
		t.Errorf("what was added is not known, or what there was no more is")
	}
	if e.Known("more") || more.Known("other") || hidden.Known("more") || file.PrintAll(e.Decls()) != before {
		t.Errorf("what was added is known beside where it was")
	}
	if got, want := file.PrintAll(other.Decls()), before+file.PrintAll(d[:2]); got != want {
		t.Errorf("the declarations: %s", got)
	}
	if params, typ, _ := hidden.Type("n"); len(params) != 1 || term.Print(typ) != "(sort u)" {
		t.Errorf("the later one of a name: %v, %s", params, term.Print(typ))
	}
	made := parsed(t, "(app (const more 0) (app (app (const add) (const one)) (const one)))")
	form, steps, err := other.Normal(made, 100)
	if err != nil || term.Print(form) != "(app (const succ) (app (const succ) (const zero)))" || steps != 11 {
		t.Errorf("Normal(%s) = %s in %d steps (%v)", term.Print(made), term.Print(form), steps, err)
	}
	if form, steps, _ := e.Whnf(made, 100); steps != 0 {
		t.Errorf("what is not known takes a step, to %s", term.Print(form))
	}
	if alone := (*Env)(nil).With(d[1]); !alone.Known("other") || alone.Known("Nat") || len(alone.Decls()) != 1 {
		t.Errorf("with no environment ahead")
	}
}

func TestRecursorsName(t *testing.T) {
	if got := Recursor("Nat"); got != "Nat.rec" {
		t.Errorf("Recursor(Nat) = %s", got)
	}
}

// A copy knows what there is; what is put into one of the two the other does not know.
func TestCopy(t *testing.T) {
	e := New()
	if c := e.Copy(); len(c.Decls()) != 0 || c.Known("a") {
		t.Error("a copy of what is empty knows something")
	}
	axiom := func(name string) api.Decl {
		return api.Decl{Kind: api.Axiom, Name: name, Type: api.Term{Kind: api.Sort, Levels: []api.Level{{}}}}
	}
	for _, isWithin := range []bool{false, true} {
		e := New()
		e.Put(axiom("a"), nil, api.Term{})
		first, count := e, 1
		if isWithin {
			first, count = e.With(axiom("b")), 2
		}
		c := first.Copy()
		c.Put(axiom("c"), nil, api.Term{})
		e.Put(axiom("d"), nil, api.Term{})
		if !c.Known("a") || c.Known("b") != isWithin || !c.Known("c") || c.Known("d") || len(c.Decls()) != count+1 {
			t.Errorf("the copy knows %v", c.Decls())
		}
		if !first.Known("a") || first.Known("c") || !first.Known("d") || len(first.Decls()) != count+1 {
			t.Errorf("what was copied knows %v", first.Decls())
		}
	}
	var none *Env
	if c := none.Copy(); c == nil || len(c.Decls()) != 0 {
		t.Error("a copy of nothing is none")
	}
}
