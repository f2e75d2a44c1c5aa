package kernel

import (
	"errors"
	"reflect"
	"slices"
	"strconv"
	"strings"
	"testing"

	"provekernel/api"
	"provekernel/file"
	"provekernel/reduce"
	"provekernel/term"
)

// families: each with its recursor's parameters and type, as layer 6 has them.
var families = [][2]string{
	{
		"(inductive Nat () 0 (sort (s 0)) (ctor zero (const Nat)) (ctor succ (pi (const Nat) (const Nat))))",
		"r: (pi (pi (const Nat) (sort r)) (pi (app #0 (const zero)) (pi (pi (const Nat) (pi (app #2 #0) (app #3 (app (const succ) #1)))) (pi (const Nat) (app #3 #0)))))",
	},
	{
		"(inductive Eq (u) 2 (pi (sort u) (pi #0 (pi #1 (sort 0)))) (ctor refl (pi (sort u) (pi #0 (app (app (app (const Eq u) #1) #0) #0)))))",
		"r u: (pi (sort u) (pi #0 (pi (pi #1 (pi (app (app (app (const Eq u) #2) #1) #0) (sort r))) (pi (app (app #0 #1) (app (app (const refl u) #2) #1)) (pi #3 (pi (app (app (app (const Eq u) #4) #3) #0) (app (app #3 #1) #0)))))))",
	},
	{
		"(inductive List (u) 1 (pi (sort (s u)) (sort (s u))) (ctor nil (pi (sort (s u)) (app (const List u) #0))) (ctor cons (pi (sort (s u)) (pi #0 (pi (app (const List u) #1) (app (const List u) #2))))))",
		"r u: (pi (sort (s u)) (pi (pi (app (const List u) #0) (sort r)) (pi (app #0 (app (const nil u) #1)) (pi (pi #2 (pi (app (const List u) #3) (pi (app #3 #0) (app #4 (app (app (app (const cons u) #5) #2) #1))))) (pi (app (const List u) #3) (app #3 #0))))))",
	},
	{
		"(inductive Vec (u) 1 (pi (sort (s u)) (pi (const Nat) (sort (s u)))) (ctor vnil (pi (sort (s u)) (app (app (const Vec u) #0) (const zero)))) (ctor vcons (pi (sort (s u)) (pi (const Nat) (pi #1 (pi (app (app (const Vec u) #2) #1) (app (app (const Vec u) #3) (app (const succ) #2))))))))",
		"r u: (pi (sort (s u)) (pi (pi (const Nat) (pi (app (app (const Vec u) #1) #0) (sort r))) (pi (app (app #0 (const zero)) (app (const vnil u) #1)) (pi (pi (const Nat) (pi #3 (pi (app (app (const Vec u) #4) #1) (pi (app (app #4 #2) #0) (app (app #5 (app (const succ) #3)) (app (app (app (app (const vcons u) #6) #3) #2) #1)))))) (pi (const Nat) (pi (app (app (const Vec u) #4) #0) (app (app #4 #1) #0)))))))",
	},
	{
		"(inductive W (u v) 2 (pi (sort (s u)) (pi (pi #0 (sort (s v))) (sort (s (max u v))))) (ctor sup (pi (sort (s u)) (pi (pi #0 (sort (s v))) (pi #1 (pi (pi (app #1 #0) (app (app (const W u v) #3) #2)) (app (app (const W u v) #3) #2)))))))",
		"r u v: (pi (sort (s u)) (pi (pi #0 (sort (s v))) (pi (pi (app (app (const W u v) #1) #0) (sort r)) (pi (pi #2 (pi (pi (app #2 #0) (app (app (const W u v) #4) #3)) (pi (pi (app #3 #1) (app #3 (app #1 #0))) (app #3 (app (app (app (app (const sup u v) #5) #4) #2) #1))))) (pi (app (app (const W u v) #3) #2) (app #2 #0))))))",
	},
	{
		"(inductive False () 0 (sort 0))",
		"r: (pi (pi (const False) (sort r)) (pi (const False) (app #1 #0)))",
	},
	{
		"(inductive Or () 2 (pi (sort 0) (pi (sort 0) (sort 0))) (ctor inl (pi (sort 0) (pi (sort 0) (pi #1 (app (app (const Or) #2) #1))))) (ctor inr (pi (sort 0) (pi (sort 0) (pi #0 (app (app (const Or) #2) #1))))))",
		": (pi (sort 0) (pi (sort 0) (pi (pi (app (app (const Or) #1) #0) (sort 0)) (pi (pi #2 (app #1 (app (app (app (const inl) #3) #2) #0))) (pi (pi #2 (app #2 (app (app (app (const inr) #4) #3) #0))) (pi (app (app (const Or) #4) #3) (app #3 #0)))))))",
	},
	{
		"(inductive Acc (u) 2 (pi (sort u) (pi (pi #0 (pi #1 (sort 0))) (pi #1 (sort 0)))) (ctor acc (pi (sort u) (pi (pi #0 (pi #1 (sort 0))) (pi #1 (pi (pi #2 (pi (app (app #2 #0) #1) (app (app (app (const Acc u) #4) #3) #1))) (app (app (app (const Acc u) #3) #2) #1)))))))",
		"r u: (pi (sort u) (pi (pi #0 (pi #1 (sort 0))) (pi (pi #1 (pi (app (app (app (const Acc u) #2) #1) #0) (sort r))) (pi (pi #2 (pi (pi #3 (pi (app (app #3 #0) #1) (app (app (app (const Acc u) #5) #4) #1))) (pi (pi #4 (pi (app (app #4 #0) #2) (app (app #4 #1) (app (app #2 #1) #0)))) (app (app #3 #2) (app (app (app (app (const acc u) #5) #4) #2) #1))))) (pi #3 (pi (app (app (app (const Acc u) #4) #3) #0) (app (app #3 #1) #0)))))))",
	},
}

// others: definitions and axioms; of some the type comes to what it must be only by steps.
const others = `(def add () (pi (const Nat) (pi (const Nat) (const Nat))) (lam (const Nat) (lam (const Nat) (app (app (app (app (const Nat.rec (s 0)) (lam (const Nat) (const Nat))) #1) (lam (const Nat) (lam (const Nat) (app (const succ) #0)))) #0))))
(def one () (const Nat) (app (const succ) (const zero)))
(def two () (const Nat) (app (app (const add) (const one)) (const one)))
(def id (u) (pi (sort u) (pi #0 #1)) (lam (sort u) (lam #0 #0)))
(def Type () (sort (s (s 0))) (sort (s 0)))
(def N () (const Type) (const Nat))
(axiom n () (const N))
(axiom P () (pi (const Nat) (sort 0)))
(axiom p () (pi (const Nat) (app (const P) #0)))
(axiom Big () (sort (s (s 0))))
(axiom Any (u v) (sort (max u v)))
(def twoIsTwo () (app (app (app (const Eq (s 0)) (const Nat)) (const two)) (app (const succ) (const one))) (app (app (const refl (s 0)) (const N)) (const two)))
`

// baseText is the text of all that, as Export tells it.
func baseText() string {
	var b strings.Builder
	for _, f := range families {
		b.WriteString(f[0] + "\n")
	}
	return b.String() + others
}

// world knows all that. It is filled by the layers below: what kernel does is held against it.
func world(t testing.TB) *reduce.Env {
	t.Helper()
	e := reduce.New()
	for _, f := range families {
		names, text, _ := strings.Cut(f[1], ":")
		e.Put(declared(t, f[0])[0], strings.Fields(names), parsed(t, text))
	}
	for _, d := range declared(t, others) {
		e.Put(d, nil, api.Term{})
	}
	return e
}

func declared(t testing.TB, text string) []api.Decl {
	t.Helper()
	ds, err := file.Parse(text)
	if err != nil {
		t.Fatalf("file.Parse(%.60q): %s", text, said(err))
	}
	return ds
}

func parsed(t testing.TB, text string) api.Term {
	t.Helper()
	made, err := term.Parse(text)
	if err != nil {
		t.Fatalf("term.Parse(%.60q): %s", text, said(err))
	}
	return made
}

// app is the text of an application to several arguments.
func app(f string, as ...string) string {
	for _, a := range as {
		f = "(app " + f + " " + a + ")"
	}
	return f
}

// right: what said tells where there is no fault.
const right = "right"

// said is a fault as a text, with its place.
func said(err error) string {
	names := map[int]string{
		api.FText: "FText", api.FLong: "FLong", api.FTwice: "FTwice", api.FName: "FName", api.FParam: "FParam", api.FLevels: "FLevels", api.FVar: "FVar", api.FFun: "FFun",
		api.FArg: "FArg", api.FSort: "FSort", api.FForm: "FForm", api.FPos: "FPos", api.FLevel: "FLevel", api.FTired: "FTired",
	}
	if err == nil {
		return right
	}
	var fault *api.Fault
	if !errors.As(err, &fault) || fault == nil || names[fault.Code] == "" {
		return "another fault"
	}
	return names[fault.Code] + " at " + strconv.Itoa(fault.At)
}

// names are those that a declaration brings.
func names(d api.Decl) []string {
	brought := []string{d.Name}
	if d.Kind == api.Inductive {
		for _, c := range d.Ctors {
			brought = append(brought, c.Name)
		}
		brought = append(brought, d.Name+".rec")
	}
	return brought
}

// seen is all that can be seen of an environment, as one text: its declarations, and what it says of the names that they
// bring, and of more.
func seen(e *reduce.Env, more ...string) string {
	var b strings.Builder
	b.WriteString(file.PrintAll(e.Decls()))
	tell := func(name string) {
		params, typ, ok := e.Type(name)
		b.WriteString(name + " " + strconv.FormatBool(e.Known(name)) + " " + strconv.FormatBool(ok) + " (" + strings.Join(params, " ") + ") " + term.Print(typ) + "\n")
	}
	for _, d := range e.Decls() {
		for _, name := range names(d) {
			tell(name)
		}
	}
	for _, name := range more {
		tell(name)
	}
	return b.String()
}

// adds: what Add says of a declaration. If it is right it has been added, and nothing else; if not, the environment is as it was.
// What is handed over stays as it was. Look has said the same, and has added nothing.
func adds(t testing.TB, e *reduce.Env, d api.Decl, fuel int) string {
	t.Helper()
	text, ahead, before := file.Print(d), e.Decls(), seen(e, names(d)...)
	kept, rec := handed(d), d.Name+".rec"
	recKnown := e.Known(rec) || d.Kind == api.Inductive
	looked := said(Look(e, d, fuel))
	if seen(e, names(d)...) != before {
		t.Errorf("Look(%.200s) makes the environment another one", text)
	}
	got := said(Add(e, d, fuel))
	if looked != got {
		t.Errorf("Look(%.200s): %s, Add: %s", text, looked, got)
	}
	if !reflect.DeepEqual(d, kept) {
		t.Errorf("Add(%.200s) changes what is handed over: %.200s", text, file.Print(d))
	}
	if got != right {
		if after := seen(e, names(d)...); after != before {
			t.Errorf("Add(%.200s): %s, and the environment is another one:\n%.400s\nnot\n%.400s", text, got, after, before)
		}
		return got
	}
	now := e.Decls()
	if len(now) != len(ahead)+1 || file.PrintAll(now[:len(ahead)]) != file.PrintAll(ahead) || !reflect.DeepEqual(now[len(ahead)], kept) {
		t.Errorf("Add(%.200s): now there are %d declarations, not %d and this one", text, len(now), len(ahead))
	}
	if e.Known(rec) != recKnown {
		t.Errorf("Add(%.200s): %s is known: %v", text, rec, e.Known(rec))
	}
	knows(t, e, d)
	return got
}

// handed is a copy of a declaration.
func handed(d api.Decl) api.Decl {
	d.Params = slices.Clone(d.Params)
	d.Type, d.Value = term.Lift(d.Type, 0, 0), term.Lift(d.Value, 0, 0)
	d.Ctors = slices.Clone(d.Ctors)
	for i := range d.Ctors {
		d.Ctors[i].Type = term.Lift(d.Ctors[i].Type, 0, 0)
	}
	return d
}

// knows: a declaration that was added, by its own name and its constructors'.
func knows(t testing.TB, e *reduce.Env, d api.Decl) {
	t.Helper()
	types := map[string]api.Term{d.Name: d.Type}
	if d.Kind == api.Inductive {
		for _, c := range d.Ctors {
			types[c.Name] = c.Type
		}
	}
	for name, want := range types {
		params, typ, ok := e.Type(name)
		if !ok || !e.Known(name) || !slices.Equal(params, d.Params) || term.Print(typ) != term.Print(want) {
			t.Errorf("of %s is known: %v, (%v) %.200s; want (%v) %.200s", name, ok, params, term.Print(typ), d.Params, term.Print(want))
		}
	}
}

// recursorText is what an environment knows of a recursor, as the table here has it.
func recursorText(e *reduce.Env, name string) string {
	params, typ, _ := e.Type(name)
	return strings.Join(params, " ") + ": " + term.Print(typ)
}
