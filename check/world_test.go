package check

import (
	"reflect"
	"strings"
	"testing"

	"provekernel/api"
	"provekernel/file"
	"provekernel/level"
	"provekernel/reduce"
	"provekernel/term"
)

// families: each with its recursor's parameters and type.
var families = [][3]string{
	{
		"(inductive Nat () 0 (sort (s 0)) (ctor zero (const Nat)) (ctor succ (pi (const Nat) (const Nat))))",
		"r",
		"(pi (pi (const Nat) (sort r)) (pi (app #0 (const zero)) (pi (pi (const Nat) (pi (app #2 #0) (app #3 (app (const succ) #1)))) (pi (const Nat) (app #3 #0)))))",
	},
	{
		"(inductive Eq (u) 2 (pi (sort u) (pi #0 (pi #1 (sort 0)))) (ctor refl (pi (sort u) (pi #0 (app (app (app (const Eq u) #1) #0) #0)))))",
		"r u",
		"(pi (sort u) (pi #0 (pi (pi #1 (pi (app (app (app (const Eq u) #2) #1) #0) (sort r))) (pi (app (app #0 #1) (app (app (const refl u) #2) #1)) (pi #3 (pi (app (app (app (const Eq u) #4) #3) #0) (app (app #3 #1) #0)))))))",
	},
	{
		"(inductive Vec (u) 1 (pi (sort (s u)) (pi (const Nat) (sort (s u)))) (ctor vnil (pi (sort (s u)) (app (app (const Vec u) #0) (const zero)))) (ctor vcons (pi (sort (s u)) (pi (const Nat) (pi #1 (pi (app (app (const Vec u) #2) #1) (app (app (const Vec u) #3) (app (const succ) #2))))))))",
		"r u",
		"(pi (sort (s u)) (pi (pi (const Nat) (pi (app (app (const Vec u) #1) #0) (sort r))) (pi (app (app #0 (const zero)) (app (const vnil u) #1)) (pi (pi (const Nat) (pi #3 (pi (app (app (const Vec u) #4) #1) (pi (app (app #4 #2) #0) (app (app #5 (app (const succ) #3)) (app (app (app (app (const vcons u) #6) #3) #2) #1)))))) (pi (const Nat) (pi (app (app (const Vec u) #4) #0) (app (app #4 #1) #0)))))))",
	},
	{
		"(inductive W (u v) 2 (pi (sort (s u)) (pi (pi #0 (sort (s v))) (sort (s (max u v))))) (ctor sup (pi (sort (s u)) (pi (pi #0 (sort (s v))) (pi #1 (pi (pi (app #1 #0) (app (app (const W u v) #3) #2)) (app (app (const W u v) #3) #2)))))))",
		"r u v",
		"(pi (sort (s u)) (pi (pi #0 (sort (s v))) (pi (pi (app (app (const W u v) #1) #0) (sort r)) (pi (pi #2 (pi (pi (app #2 #0) (app (app (const W u v) #4) #3)) (pi (pi (app #3 #1) (app #3 (app #1 #0))) (app #3 (app (app (app (app (const sup u v) #5) #4) #2) #1))))) (pi (app (app (const W u v) #3) #2) (app #2 #0))))))",
	},
	{
		"(inductive False () 0 (sort 0))",
		"r",
		"(pi (pi (const False) (sort r)) (pi (const False) (app #1 #0)))",
	},
}

// others: sums, and names for what a type may come to only by steps: Type a sort, Unary and Deep a pi, N another type.
const others = `(def add () (pi (const Nat) (pi (const Nat) (const Nat))) (lam (const Nat) (lam (const Nat) (app (app (app (app (const Nat.rec (s 0)) (lam (const Nat) (const Nat))) #1) (lam (const Nat) (lam (const Nat) (app (const succ) #0)))) #0))))
(def one () (const Nat) (app (const succ) (const zero)))
(def two () (const Nat) (app (const succ) (const one)))
(def id (u) (pi (sort u) (pi #0 #1)) (lam (sort u) (lam #0 #0)))
(def Type () (sort (s (s 0))) (sort (s 0)))
(def N () (const Type) (const Nat))
(def Unary () (const Type) (pi (const Nat) (const Nat)))
(def Deep () (const Type) (app (app (const id (s (s 0))) (const Type)) (const Unary)))
(axiom n () (const N))
(axiom f () (const Unary))
(axiom g () (const Deep))
(axiom A () (const Type))
(axiom a () (const A))
(axiom P () (pi (const Nat) (sort 0)))
(axiom p () (pi (const Nat) (app (const P) #0)))
(axiom q () (pi (app (const P) (const two)) (const Nat)))
(axiom Pair (u v) (pi (sort u) (pi (sort v) (sort (max u v)))))
(axiom F () (const False))
(axiom six (a b c d e f) (sort (max a (max b (max c (max d (max e f)))))))`

// world knows the families and constants above.
func world(t testing.TB) *reduce.Env {
	t.Helper()
	e := reduce.New()
	for _, f := range families {
		e.Put(declared(t, f[0])[0], strings.Fields(f[1]), parsed(t, f[2]))
	}
	for _, d := range declared(t, others) {
		e.Put(d, nil, api.Term{})
	}
	return e
}

func declared(t testing.TB, text string) []api.Decl {
	t.Helper()
	ds, err := file.Parse(text)
	if err != nil {
		code, at := api.Code(err)
		t.Fatalf("file.Parse(%.60q): fault %d at %d", text, code, at)
	}
	return ds
}

func parsed(t testing.TB, text string) api.Term {
	t.Helper()
	made, err := term.Parse(text)
	if err != nil {
		code, at := api.Code(err)
		t.Fatalf("term.Parse(%.60q): fault %d at %d", text, code, at)
	}
	return made
}

// parsedAll are the terms of a context.
func parsedAll(t testing.TB, texts []string) []api.Term {
	t.Helper()
	var ts []api.Term
	for _, text := range texts {
		ts = append(ts, parsed(t, text))
	}
	return ts
}

// app is the text of an application to several arguments.
func app(f string, as ...string) string {
	for _, a := range as {
		f = "(app " + f + " " + a + ")"
	}
	return f
}

// num is the text of a number.
func num(n int) string {
	return strings.Repeat("(app (const succ) ", n) + "(const zero)" + strings.Repeat(")", n)
}

var levelNames = []string{"u", "v"}

// asked: what a term is looked at in.
type asked struct {
	env  *reduce.Env
	ctx  []api.Term
	fuel int
}

// told is what Infer says of a term, as one text: its type, or the code of its fault; with a fault nothing else may be told.
func (q asked) told(t testing.TB, made api.Term) string {
	t.Helper()
	typ, err := Infer(q.env, levelNames, q.ctx, made, q.fuel)
	code, at := api.Code(err)
	if at != 0 || err != nil && !reflect.DeepEqual(typ, api.Term{}) {
		t.Errorf("Infer(%.60s): fault %d at %d, with %.60s", term.Print(made), code, at, term.Print(typ))
	}
	if err != nil {
		return codeText(code)
	}
	return term.Print(typ)
}

// toldSort is that of Sort.
func (q asked) toldSort(t testing.TB, made api.Term) string {
	t.Helper()
	l, err := Sort(q.env, levelNames, q.ctx, made, q.fuel)
	code, at := api.Code(err)
	if at != 0 || err != nil && !reflect.DeepEqual(l, api.Level{}) {
		t.Errorf("Sort(%.60s): fault %d at %d, with %.60s", term.Print(made), code, at, level.Print(l))
	}
	if err != nil {
		return codeText(code)
	}
	return level.Print(l)
}

// codeText: a fault as a text that is no term's.
func codeText(code int) string {
	names := map[int]string{api.FTwice: "FTwice", api.FName: "FName", api.FParam: "FParam", api.FLevels: "FLevels", api.FVar: "FVar", api.FFun: "FFun", api.FArg: "FArg", api.FSort: "FSort", api.FTired: "FTired", 0: "no fault"}
	if name, ok := names[code]; ok {
		return name
	}
	return "another fault"
}

// pair: a term's text, and what is to be told of it.
type pair struct{ text, want string }

// tellsAll: of each term that is told.
func (q asked) tellsAll(t *testing.T, pairs []pair) {
	t.Helper()
	for _, c := range pairs {
		if got := q.told(t, parsed(t, c.text)); got != c.want {
			t.Errorf("Infer(%s) = %s, want %s", c.text, got, c.want)
		}
	}
}
