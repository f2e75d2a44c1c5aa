package kernel

import (
	"reflect"
	"strings"
	"testing"

	"provekernel/api"
	"provekernel/check"
	"provekernel/file"
	"provekernel/reduce"
	"provekernel/term"
)

// Each declaration of the base, one by one: it is right, it is added, and of a family the recursor is known as layer 6 has it.
func TestAddOfWhatIsRight(t *testing.T) {
	e := reduce.New()
	for _, f := range families {
		d := declared(t, f[0])[0]
		if got := adds(t, e, d, 1000); got != right {
			t.Errorf("Add(%s): %s", f[0], got)
		}
		if got := recursorText(e, d.Name+".rec"); got != f[1] {
			t.Errorf("%s.rec is known as %s, want %s", d.Name, got, f[1])
		}
	}
	for _, d := range declared(t, others) {
		if got := adds(t, e, d, 1000); got != right {
			t.Errorf("Add(%s): %s", file.Print(d), got)
		}
	}
	if got, want := seen(e), seen(world(t)); got != want {
		t.Errorf("in all there is\n%s\nwant\n%s", got, want)
	}
}

// addCase: a declaration's text, and what is said of it where the base is known.
type addCase struct{ text, want string }

func saysAll(t *testing.T, fuel int, cases []addCase) {
	t.Helper()
	for _, c := range cases {
		e := world(t)
		if got := adds(t, e, declared(t, c.text)[0], fuel); got != c.want {
			t.Errorf("Add(%s), fuel %d: %s, want %s", c.text, fuel, got, c.want)
		}
	}
}

// Axioms and definitions, with each fault of layer 5.
func TestAddOfAxiomsAndDefinitions(t *testing.T) {
	saysAll(t, 1000, []addCase{
		{"(axiom a () (const Nat))", right},
		{"(axiom a () (const N))", right},
		{"(axiom a (u v w x y z) (sort (max u (max v (max w (max x (max y z)))))))", right},
		{"(axiom a (u) (pi (sort u) (pi #0 #1)))", right},
		{"(axiom a () (app (const P) (const two)))", right},
		{"(axiom r () (app (app (const Nat.rec (s (s 0))) (lam (const Nat) (sort (s 0)))) (const Nat)))", "FSort at 0"},
		{"(axiom a () (app (app (app (app (const Nat.rec (s (s 0))) (lam (const Nat) (const Type))) (const Nat)) (lam (const Nat) (lam (const Type) #0))) (const two)))", right},
		{"(axiom Nat () (const Nat))", "FTwice at 0"},
		{"(axiom zero () (const Nat))", "FTwice at 0"},
		{"(axiom Nat.rec () (const Nat))", "FTwice at 0"},
		{"(axiom n () #0)", "FTwice at 0"},
		{"(axiom a (u u) (sort u))", "FParam at 0"},
		{"(axiom a (t u v w x y z) (sort u))", "FParam at 0"},
		{"(axiom a (u) (sort v))", "FParam at 0"},
		{"(axiom a () (const Any 0 u))", "FParam at 0"},
		{"(axiom a () #0)", "FVar at 0"},
		{"(axiom a () (pi (const Nat) #1))", "FVar at 0"},
		{"(axiom a () (const none))", "FName at 0"},
		{"(axiom a () (const a))", "FName at 0"},
		{"(axiom a () (const Any 0))", "FLevels at 0"},
		{"(axiom a () (const Nat 0))", "FLevels at 0"},
		{"(axiom a () (app (const Nat) (const zero)))", "FFun at 0"},
		{"(axiom a () (app (const P) (const Nat)))", "FArg at 0"},
		{"(axiom a () (const zero))", "FSort at 0"},
		{"(axiom a () (pi (const zero) (const Nat)))", "FSort at 0"},
		{"(axiom a () (let (const Nat) (const Nat) (const Nat)))", "FArg at 0"},
		{"(def a () (const Nat) (const two))", right},
		{"(def a () (const N) (const zero))", right},
		{"(def a (u) (pi (sort u) (pi #0 #1)) (const id u))", right},
		{"(def a () (app (const P) (const two)) (app (const p) (app (const succ) (const one))))", right},
		{"(def a () (pi (const Nat) (const Nat)) (lam (const N) (app (const succ) #0)))", right},
		{"(def two () (const Nat) (const one))", "FTwice at 0"},
		{"(def inl () (const Nat) (const one))", "FTwice at 0"},
		{"(def a (u v u) (const Nat) (const one))", "FParam at 0"},
		{"(def a (u) (sort (s u)) (sort v))", "FParam at 0"},
		{"(def a () (const Nat) #0)", "FVar at 0"},
		{"(def a () (const Nat) (const a))", "FName at 0"},
		{"(def a () (const Nat) (app (const id) (const Nat)))", "FLevels at 0"},
		{"(def a () (const Nat) (app (const zero) (const zero)))", "FFun at 0"},
		{"(def a () (const Nat) (app (const succ) (const succ)))", "FArg at 0"},
		{"(def a () (const Nat) (const succ))", "FArg at 0"},
		{"(def a () (sort 0) (const Nat))", "FArg at 0"},
		{"(def a () (app (const P) (const two)) (app (const p) (const one)))", "FArg at 0"},
		{"(def a () (const zero) #0)", "FSort at 0"},
		{"(def a () (const Nat) (lam (const zero) (const zero)))", "FSort at 0"},
	})
}

// Families, with each fault of layers 5 and 6.
func TestAddOfFamilies(t *testing.T) {
	saysAll(t, 1000, []addCase{
		{"(inductive A () 0 (sort (s 0)))", right},
		{"(inductive A () 0 (sort (s 0)) (ctor a (const A)))", right},
		{"(inductive A () 0 (sort (s 0)) (ctor a (pi (const Nat) (pi (pi (const Nat) (const A)) (const A)))))", right},
		{"(inductive A () 1 (pi (const N) (sort 0)) (ctor a (pi (const Nat) (app (const A) #0))))", right},
		{"(inductive A (r) 0 (sort (s (s r))) (ctor a (pi (sort r) (const A r))))", right},
		{"(inductive Nat () 0 (sort (s 0)))", "FTwice at 0"},
		{"(inductive A () 0 (sort (s 0)) (ctor b (const A)) (ctor zero (const A)))", "FTwice at 0"},
		{"(inductive A () 0 (sort (s 0)) (ctor b (const A)) (ctor b (const A)))", "FTwice at 0"},
		{"(inductive A () 0 (sort (s 0)) (ctor A (const A)))", "FTwice at 0"},
		{"(inductive A () 0 (sort (s 0)) (ctor A.rec (const A)))", "FTwice at 0"},
		{"(inductive A (u u) 0 (sort (s 0)))", "FParam at 0"},
		{"(inductive A (t u v w x y z) 0 (sort (s 0)))", "FParam at 0"},
		{"(inductive A () 0 (sort (s u)))", "FParam at 0"},
		{"(inductive A () 0 (sort (s 0)) (ctor a (pi (sort u) (const A))))", "FParam at 0"},
		{"(inductive A () 0 (pi #0 (sort 0)))", "FVar at 0"},
		{"(inductive A () 0 (sort (s 0)) (ctor a #0))", "FVar at 0"},
		{"(inductive A () 0 (pi (const A) (sort 0)))", "FName at 0"},
		{"(inductive A () 0 (sort (s 0)) (ctor a (pi (const b) (const A))) (ctor b (const A)))", "FName at 0"},
		{"(inductive A (u) 0 (sort (s u)) (ctor a (const A)))", "FLevels at 0"},
		{"(inductive A () 0 (sort (s 0)) (ctor a (app (const A) (const zero))))", "FFun at 0"},
		{"(inductive A () 0 (pi (const Nat) (sort 0)) (ctor a (app (const A) (const Nat))))", "FArg at 0"},
		{"(inductive A () 0 (const zero))", "FSort at 0"},
		{"(inductive A () 0 (pi (const Nat) (sort 0)) (ctor a (const A)))", "FSort at 0"},
		{"(inductive A () 1 (sort (s 0)))", "FForm at 0"},
		{"(inductive A () 0 (const Type))", "FForm at 0"},
		{"(inductive A (u) 0 (sort u))", "FForm at 0"},
		{"(inductive A () 0 (sort (s 0)) (ctor a (const Nat)))", "FForm at 0"},
		{"(inductive A () 1 (pi (const Nat) (sort 0)) (ctor a (pi (sort 0) (app (const A) (const zero)))))", "FForm at 0"},
		{"(inductive " + strings.Repeat("A", 36) + " () 0 (sort 0))", right},
		{"(inductive " + strings.Repeat("A", 37) + " () 0 (sort 0))", "FForm at 0"},
		{"(inductive A () 0 (sort (s 0)) (ctor a (pi (pi (const A) (const Nat)) (const A))))", "FPos at 0"},
		{"(inductive A () 0 (sort (s 0)) (ctor a (const A)) (ctor b (pi (app (const List 0) (const A)) (const A))))", "FPos at 0"},
		{"(inductive A () 0 (sort (s 0)) (ctor a (pi (const Big) (const A))))", "FLevel at 0"},
		{"(inductive A () 0 (sort (s 0)) (ctor a (pi (sort 0) (const A))))", right},
		{"(inductive A () 0 (sort (s 0)) (ctor a (pi (sort (s 0)) (const A))))", "FLevel at 0"},
		{"(inductive A () 0 (sort 0) (ctor a (pi (const Big) (const A))))", right},
	})
}

// What is not right leaves nothing behind: the names that it would have brought are free, and what was right ahead stays so.
func TestWhatIsWrongLeavesNothing(t *testing.T) {
	const wrong = "(inductive A () 0 (sort (s 0)) (ctor a (const A)) (ctor b (pi (const Big) (const A))))"
	e, never := world(t), world(t)
	for _, text := range []string{
		wrong, "(axiom A.rec () (const Nat))", "(axiom A () (const zero))", "(def a () (sort 0) (const zero))", "(def b () (const Nat) (const zero))",
		"(inductive A () 0 (sort (s 0)) (ctor a (const A)))", "(axiom A () (sort (s 0)))", "(axiom c () (const a))", "(def a () (const Nat) (const b))",
	} {
		d := declared(t, text)[0]
		got := adds(t, e, d, 1000)
		if got == right {
			never.Put(d, nil, api.Term{})
		}
		if got, want := seen(e, "A", "a", "b", "A.rec"), seen(never, "A", "a", "b", "A.rec"); got != want {
			t.Errorf("behind %s there is\n%s\nwant\n%s", text, got, want)
		}
	}
	if got := adds(t, e, declared(t, wrong)[0], 1000); got != "FTwice at 0" {
		t.Errorf("now that b is known: %s", got)
	}
}

// A family can be added by the name of one that was not right, and its recursor is its own.
func TestFamilyAfterAWrongOne(t *testing.T) {
	e := world(t)
	for _, c := range []addCase{
		{"(inductive A () 0 (sort (s 0)) (ctor a (const A)) (ctor b (const Nat)))", "FForm at 0"},
		{"(inductive A () 0 (sort 0) (ctor b (pi (const Nat) (const A))))", right},
		{"(inductive A () 0 (sort (s 0)) (ctor a (const A)))", "FTwice at 0"},
		{"(axiom a () (const A))", right},
	} {
		if got := adds(t, e, declared(t, c.text)[0], 1000); got != c.want {
			t.Errorf("Add(%s): %s, want %s", c.text, got, c.want)
		}
	}
	const want = ": (pi (pi (const A) (sort 0)) (pi (pi (const Nat) (app #1 (app (const b) #0))) (pi (const A) (app #2 #0))))"
	if got := recursorText(e, "A.rec"); got != want {
		t.Errorf("A.rec is known as %s, want %s", got, want)
	}
}

// Recursors and definitions that were added take their steps.
func TestWhatIsAddedTakesSteps(t *testing.T) {
	e, n, err := File(baseText(), 1000)
	if err != nil {
		t.Fatalf("%d added: %s", n, said(err))
	}
	const nat, list = "(const Nat)", "(app (const List 0) (const Nat))"
	cons := func(x, xs string) string { return app("(const cons 0)", nat, x, xs) }
	branches := func(a string) string { return "(app (app (const W 0 0) " + a + ") (lam " + a + " (const False)))" }
	for _, c := range []struct {
		text, want string
		steps      int // -1: they are not counted here
	}{
		{app("(const add)", "(const one)", "(const one)"), "(app (const succ) (app (const succ) (const zero)))", 9},
		{app("(const add)", "(const two)", "(const n)"), app("(const Nat.rec (s 0))", "(lam (const Nat) (const Nat))", "(app (const succ) (app (const succ) (const zero)))", "(lam (const Nat) (lam (const Nat) (app (const succ) #0)))", "(const n)"), -1},
		{app("(const id (s 0))", "(const N)", "(const one)"), "(app (const succ) (const zero))", 4},
		{
			app("(const List.rec (s 0) 0)", nat, "(lam "+list+" (const Nat))", "(const zero)", "(lam (const Nat) (lam "+list+" (lam (const Nat) (app (const succ) #0))))", cons("(const n)", cons("(const n)", "(app (const nil 0) (const Nat))"))),
			"(app (const succ) (app (const succ) (const zero)))", 9,
		},
		{app("(const Or.rec)", "#0", "#1", "#2", "#3", "#4", app("(const inr)", "#0", "#1", "#5")), "(app #4 #5)", 1},
		{app("(const Eq.rec r u)", "#0", "#1", "#2", "#3", "#1", app("(const refl u)", "#0", "#1")), "#3", 1},
		{
			app("(const W.rec (s 0) 0 0)", nat, "(lam (const Nat) (const False))", "(lam "+branches(nat)+" (const Nat))", "(lam (const Nat) (lam (pi (const False) "+branches(nat)+") (lam (pi (const False) (const Nat)) #2)))", app("(const sup 0 0)", nat, "(lam (const Nat) (const False))", "(const one)", "#7")),
			"(app (const succ) (const zero))", 5,
		},
		{
			app("(const Acc.rec 0 u)", "#0", "#1", "#2", "#3", "#4", app("(const acc u)", "#0", "#1", "#4", "#5")),
			app("#3", "#4", "#5", "(lam #0 (lam (app (app #2 #0) #5) "+app("(const Acc.rec 0 u)", "#2", "#3", "#4", "#5", "#1", "(app (app #7 #1) #0)")+"))"), 1,
		},
		{app("(const False.rec u)", "#0", "#1"), "(app (app (const False.rec u) #0) #1)", 0},
	} {
		form, steps, err := e.Normal(parsed(t, c.text), 1000)
		if err != nil || term.Print(form) != c.want || c.steps >= 0 && steps != c.steps {
			t.Errorf("%s comes to %s in %d steps (%v), want %s in %d", c.text, term.Print(form), steps, err, c.want, c.steps)
		}
	}
}

// What was added is right where it stands: types have sorts, recursors' too, and values have the types that are told.
func isRightWithin(t *testing.T, e *reduce.Env) {
	t.Helper()
	const fuel = 100000
	for _, d := range e.Decls() {
		for _, name := range names(d) {
			params, typ, _ := e.Type(name)
			if len(params) > 6 {
				params = params[:6] // the recursor of six parameters has seven: layer 5 is asked of six at most
				typ = term.Levels(typ, []string{"r", d.Params[5]}, []api.Level{{}, {}})
			}
			if _, err := check.Sort(e, params, nil, typ, fuel); err != nil {
				t.Errorf("the type of %s, %s, has no sort: %s", name, term.Print(typ), said(err))
			}
		}
		if d.Kind != api.Def {
			continue
		}
		typ, err := check.Infer(e, d.Params, nil, d.Value, fuel)
		if equal, _ := e.Equal(typ, d.Type, fuel); !equal || err != nil {
			t.Errorf("the value of %s is of type %s (%s)", d.Name, term.Print(typ), said(err))
		}
	}
}

func TestWhatIsAddedIsRight(t *testing.T) {
	e := world(t)
	for _, text := range []string{
		"(inductive A (r) 1 (pi (sort r) (pi #0 (sort (s r)))) (ctor a (pi (sort r) (pi #0 (app (app (const A r) #1) #0)))))",
		"(inductive B () 0 (sort 0) (ctor b (pi (const Nat) (pi (const B) (const B)))))",
		"(inductive C (a b c d e f) 0 (sort (s (max a (max b (max c (max d (max e f))))))) (ctor c (pi (sort f) (pi (pi (sort e) (const C a b c d e f)) (const C a b c d e f)))))",
		"(def eq () (pi (const Nat) (sort 0)) (lam (const Nat) (app (app (app (const Eq (s 0)) (const Nat)) #0) (const two))))",
	} {
		if got := adds(t, e, declared(t, text)[0], 1000); got != right {
			t.Errorf("Add(%s): %s", text, got)
		}
	}
	isRightWithin(t, e)
}

// Steps that are just enough, and one too few. With a fault of fuel nothing is added, and with more fuel it is.
func TestFuelOfAdd(t *testing.T) {
	for _, c := range []struct {
		text  string
		steps int  // how many the longest form, or equality, takes
		exact bool // it is a form that takes these: of an equality the true answer may be told with fewer
	}{
		{"(axiom a () (const Nat))", 0, true},
		{"(axiom a () (const N))", 1, true},
		{"(axiom a () (app (lam (const Type) #0) (const N)))", 2, false},
		{"(axiom a () (app (app (const id (s (s 0))) (const Type)) (const Nat)))", 1, true},
		{"(axiom a () (app (lam (const Nat) (app (const P) #0)) (const zero)))", 0, true},
		{"(def a () (const Nat) (app (const succ) (const zero)))", 0, true},
		{"(def a () (const N) (const zero))", 1, true},
		{"(def a () (app (const P) (const two)) (app (const p) (app (const succ) (const one))))", 11, false},
		{"(inductive A () 0 (sort (s 0)) (ctor a (pi (const Nat) (const A))))", 0, true},
		{"(inductive A () 0 (sort (s 0)) (ctor a (pi (const N) (const A))))", 1, true},
		{"(inductive A () 1 (pi (const N) (sort 0)) (ctor a (pi (const Nat) (app (const A) #0))))", 1, true},
		{"(inductive A () 1 (pi (app (const P) (const two)) (sort 0)) (ctor a (pi (app (const P) (app (const succ) (const one))) (app (const A) #0))))", 11, false},
	} {
		d := declared(t, c.text)[0]
		for fuel := range c.steps {
			e := world(t)
			if got := adds(t, e, d, fuel); got != "FTired at 0" && (c.exact || got != right) {
				t.Errorf("Add(%s), fuel %d: %s", c.text, fuel, got)
			}
			if got := adds(t, e, d, 100000); got != right && got != "FTwice at 0" {
				t.Errorf("Add(%s), with fuel %d and then with more: %s", c.text, fuel, got)
			}
		}
		for _, fuel := range []int{c.steps, c.steps + 1, 100000} {
			if got := adds(t, world(t), d, fuel); got != right {
				t.Errorf("Add(%s), fuel %d: %s", c.text, fuel, got)
			}
		}
	}
}

// A fault that is met ahead of the first step is told without fuel.
func TestFaultsWithoutFuel(t *testing.T) {
	saysAll(t, 0, []addCase{
		{"(axiom Nat () (const N))", "FTwice at 0"},
		{"(def a (u u) (const N) (const zero))", "FParam at 0"},
		{"(def a () (const Nat) #0)", "FVar at 0"},
		{"(axiom a () (const none))", "FName at 0"},
		{"(inductive A () 1 (sort (s 0)))", "FForm at 0"},
		{"(inductive A () 0 (sort (s 0)) (ctor a (pi (pi (const A) (const Nat)) (const A))))", "FPos at 0"},
	})
}

// What is handed over is not kept: what becomes of it later is not seen; nor is what becomes of answers.
func TestWhatIsAddedIsNotKept(t *testing.T) {
	e, never := reduce.New(), seen(world(t), "spoiled")
	for _, d := range declared(t, baseText()) {
		if got := adds(t, e, d, 1000); got != right {
			t.Fatalf("Add(%s): %s", file.Print(d), got)
		}
		spoil(&d)
		for _, told := range e.Decls() {
			spoil(&told)
		}
		for _, name := range []string{"Nat", "Nat.rec", "List", "cons"} {
			params, typ, _ := e.Type(name)
			spoil(&api.Decl{Params: params, Type: typ})
		}
	}
	if got := seen(e, "spoiled"); got != never {
		t.Errorf("there is\n%s\nwant\n%s", got, never)
	}
}

// spoil changes all lists of a declaration.
func spoil(d *api.Decl) {
	for i := range d.Params {
		d.Params[i] = "spoiled"
	}
	spoilTerm(&d.Type)
	spoilTerm(&d.Value)
	for i := range d.Ctors {
		spoilTerm(&d.Ctors[i].Type)
		d.Ctors[i] = api.Ctor{Name: "spoiled"}
	}
}

func spoilTerm(t *api.Term) {
	for i := range t.Args {
		spoilTerm(&t.Args[i])
		t.Args[i] = api.Term{Kind: api.Const, Name: "spoiled"}
	}
	for i := range t.Levels {
		spoilLevel(&t.Levels[i])
		t.Levels[i] = api.Level{Kind: api.Param, Name: "spoiled"}
	}
}

func spoilLevel(l *api.Level) {
	for i := range l.Args {
		spoilLevel(&l.Args[i])
		l.Args[i] = api.Level{Kind: api.Param, Name: "spoiled"}
	}
}

// Two environments share nothing, though the same declarations are added to both.
func TestEnvironmentsAreApart(t *testing.T) {
	ds := declared(t, baseText())
	a, b := reduce.New(), reduce.New()
	for _, d := range ds {
		if err := Add(a, d, 1000); err != nil {
			t.Fatal(said(err))
		}
		if len(b.Decls()) != 0 || b.Known(d.Name) {
			t.Fatalf("%s was added to another environment", d.Name)
		}
	}
	for _, d := range ds {
		if err := Add(b, d, 1000); err != nil {
			t.Fatal(said(err))
		}
	}
	if seen(a) != seen(b) || !reflect.DeepEqual(a.Decls(), b.Decls()) {
		t.Errorf("the second environment is another one than the first")
	}
}
