package induct

import (
	"reflect"
	"strings"
	"testing"

	"provekernel/api"
	"provekernel/file"
	"provekernel/reduce"
	"provekernel/term"
)

// families: each with its recursor's parameters and type, as the chapter has them.
var families = [][2]string{
	{
		"(inductive Nat () 0 (sort (s 0)) (ctor zero (const Nat)) (ctor succ (pi (const Nat) (const Nat))))",
		"r: (pi (pi (const Nat) (sort r)) (pi (app #0 (const zero)) (pi (pi (const Nat) (pi (app #2 #0) (app #3 (app (const succ) #1)))) (pi (const Nat) (app #3 #0)))))",
	},
	{
		"(inductive Eq (u) 2 (pi (sort u) (pi #0 (pi #1 (sort 0)))) (ctor refl (pi (sort u) (pi #0 (app (app (app (const Eq u) #1) #0) #0)))))",
		"r u: (pi (sort u) (pi #0 (pi (pi #1 (pi (app (app (app (const Eq u) #2) #1) #0) (sort r))) (pi (app (app #0 #1) (app (app (const refl u) #2) #1)) (pi #3 (pi (app (app (app (const Eq u) #4) #3) #0) (app (app #3 #1) #0)))))))",
	},
	{
		"(inductive List (u) 1 (pi (sort (s u)) (sort (s u))) (ctor nil (pi (sort (s u)) (app (const List u) #0))) (ctor cons (pi (sort (s u)) (pi #0 (pi (app (const List u) #1) (app (const List u) #2))))))",
		"r u: (pi (sort (s u)) (pi (pi (app (const List u) #0) (sort r)) (pi (app #0 (app (const nil u) #1)) (pi (pi #2 (pi (app (const List u) #3) (pi (app #3 #0) (app #4 (app (app (app (const cons u) #5) #2) #1))))) (pi (app (const List u) #3) (app #3 #0))))))",
	},
	{
		"(inductive Vec (u) 1 (pi (sort (s u)) (pi (const Nat) (sort (s u)))) (ctor vnil (pi (sort (s u)) (app (app (const Vec u) #0) (const zero)))) (ctor vcons (pi (sort (s u)) (pi (const Nat) (pi #1 (pi (app (app (const Vec u) #2) #1) (app (app (const Vec u) #3) (app (const succ) #2))))))))",
		"r u: (pi (sort (s u)) (pi (pi (const Nat) (pi (app (app (const Vec u) #1) #0) (sort r))) (pi (app (app #0 (const zero)) (app (const vnil u) #1)) (pi (pi (const Nat) (pi #3 (pi (app (app (const Vec u) #4) #1) (pi (app (app #4 #2) #0) (app (app #5 (app (const succ) #3)) (app (app (app (app (const vcons u) #6) #3) #2) #1)))))) (pi (const Nat) (pi (app (app (const Vec u) #4) #0) (app (app #4 #1) #0)))))))",
	},
	{
		"(inductive W (u v) 2 (pi (sort (s u)) (pi (pi #0 (sort (s v))) (sort (s (max u v))))) (ctor sup (pi (sort (s u)) (pi (pi #0 (sort (s v))) (pi #1 (pi (pi (app #1 #0) (app (app (const W u v) #3) #2)) (app (app (const W u v) #3) #2)))))))",
		"r u v: (pi (sort (s u)) (pi (pi #0 (sort (s v))) (pi (pi (app (app (const W u v) #1) #0) (sort r)) (pi (pi #2 (pi (pi (app #2 #0) (app (app (const W u v) #4) #3)) (pi (pi (app #3 #1) (app #3 (app #1 #0))) (app #3 (app (app (app (app (const sup u v) #5) #4) #2) #1))))) (pi (app (app (const W u v) #3) #2) (app #2 #0))))))",
	},
	{
		"(inductive False () 0 (sort 0))",
		"r: (pi (pi (const False) (sort r)) (pi (const False) (app #1 #0)))",
	},
	{
		"(inductive Or () 2 (pi (sort 0) (pi (sort 0) (sort 0))) (ctor inl (pi (sort 0) (pi (sort 0) (pi #1 (app (app (const Or) #2) #1))))) (ctor inr (pi (sort 0) (pi (sort 0) (pi #0 (app (app (const Or) #2) #1))))))",
		": (pi (sort 0) (pi (sort 0) (pi (pi (app (app (const Or) #1) #0) (sort 0)) (pi (pi #2 (app #1 (app (app (app (const inl) #3) #2) #0))) (pi (pi #2 (app #2 (app (app (app (const inr) #4) #3) #0))) (pi (app (app (const Or) #4) #3) (app #3 #0)))))))",
	},
	{
		"(inductive Acc (u) 2 (pi (sort u) (pi (pi #0 (pi #1 (sort 0))) (pi #1 (sort 0)))) (ctor acc (pi (sort u) (pi (pi #0 (pi #1 (sort 0))) (pi #1 (pi (pi #2 (pi (app (app #2 #0) #1) (app (app (app (const Acc u) #4) #3) #1))) (app (app (app (const Acc u) #3) #2) #1)))))))",
		"r u: (pi (sort u) (pi (pi #0 (pi #1 (sort 0))) (pi (pi #1 (pi (app (app (app (const Acc u) #2) #1) #0) (sort r))) (pi (pi #2 (pi (pi #3 (pi (app (app #3 #0) #1) (app (app (app (const Acc u) #5) #4) #1))) (pi (pi #4 (pi (app (app #4 #0) #2) (app (app #4 #1) (app (app #2 #1) #0)))) (app (app #3 #2) (app (app (app (app (const acc u) #5) #4) #2) #1))))) (pi #3 (pi (app (app (app (const Acc u) #4) #3) #0) (app (app #3 #1) #0)))))))",
	},
}

// others: names for what comes to a type, or to a sort, only by steps; propositions; a type of a great universe.
const others = `(def one () (const Nat) (app (const succ) (const zero)))
(def id (u) (pi (sort u) (pi #0 #1)) (lam (sort u) (lam #0 #0)))
(def Type () (sort (s (s 0))) (sort (s 0)))
(def N () (const Type) (const Nat))
(axiom P () (pi (const Nat) (sort 0)))
(axiom p () (pi (const Nat) (app (const P) #0)))
(axiom Big () (sort (s (s 0))))
(axiom Any (u) (sort u))`

// world knows the families and constants above.
func world(t testing.TB) *reduce.Env {
	t.Helper()
	e := reduce.New()
	for _, f := range families {
		names, text, _ := strings.Cut(f[1], ":")
		e.Put(declared(t, f[0])[0], strings.Fields(names), parsed(t, text))
	}
	for _, d := range declared(t, others) {
		e.Put(d, nil, api.Term{})
	}
	return e
}

func declared(t testing.TB, text string) []api.Decl {
	t.Helper()
	ds, err := file.Parse(text)
	if err != nil {
		code, at := api.Code(err)
		t.Fatalf("file.Parse(%.60q): fault %d at %d", text, code, at)
	}
	return ds
}

func parsed(t testing.TB, text string) api.Term {
	t.Helper()
	made, err := term.Parse(text)
	if err != nil {
		code, at := api.Code(err)
		t.Fatalf("term.Parse(%.60q): fault %d at %d", text, code, at)
	}
	return made
}

// told is what Decl says of a declaration, as one text: the recursor's parameters and type, or the fault. With a fault nothing
// else may be told; nothing may be added, and what is handed over may not be changed.
func told(t testing.TB, e *reduce.Env, d api.Decl, fuel int) string {
	t.Helper()
	text, known := file.Print(d), file.PrintAll(e.Decls())
	params, typ, err := Decl(e, d, fuel)
	code, at := api.Code(err)
	if at != 0 || err != nil && (params != nil || !reflect.DeepEqual(typ, api.Term{})) {
		t.Errorf("Decl(%.200s): fault %d at %d, with %v and %.60s", text, code, at, params, term.Print(typ))
	}
	if file.PrintAll(e.Decls()) != known {
		t.Errorf("Decl(%.200s) adds something", text)
	}
	if file.Print(d) != text {
		t.Errorf("Decl(%.200s) changes what is handed over: %.200s", text, file.Print(d))
	}
	if err != nil {
		return codeText(code)
	}
	return recursorText(params, typ)
}

// recursorText is a recursor as the tables here have it.
func recursorText(params []string, typ api.Term) string {
	return strings.Join(params, " ") + ": " + term.Print(typ)
}

// codeText: a fault as a text that is no recursor's.
func codeText(code int) string {
	names := map[int]string{
		api.FTwice: "FTwice", api.FName: "FName", api.FParam: "FParam", api.FLevels: "FLevels", api.FVar: "FVar", api.FFun: "FFun", api.FArg: "FArg",
		api.FSort: "FSort", api.FForm: "FForm", api.FPos: "FPos", api.FLevel: "FLevel", api.FTired: "FTired",
	}
	if name, ok := names[code]; ok {
		return name
	}
	return "another fault"
}

// pair: a family's text, and what is to be told of it: the recursor, or a fault; "right", if the recursor is not looked at.
type pair struct{ text, want string }

const right = "right"

// tellsAll: of each family that is told.
func tellsAll(t *testing.T, e *reduce.Env, fuel int, pairs []pair) {
	t.Helper()
	for _, c := range pairs {
		got := told(t, e, declared(t, c.text)[0], fuel)
		if c.want == right && strings.Contains(got, ":") {
			continue
		}
		if got != c.want {
			t.Errorf("Decl(%s), fuel %d = %s, want %s", c.text, fuel, got, c.want)
		}
	}
}
