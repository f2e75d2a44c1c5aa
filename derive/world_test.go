package derive

import (
	"errors"
	"strconv"
	"strings"
	"testing"

	"provekernel/api"
	"provekernel/file"
	"provekernel/kernel"
	"provekernel/reduce"
	"provekernel/term"
)

// worldText: families, and names for what a type may come to only by steps: Type a sort; Unary, Deep and Arr of a number a pi,
// N another type, the types of six a sort with all of its levels.
const worldText = `(inductive Nat () 0 (sort (s 0)) (ctor zero (const Nat)) (ctor succ (pi (const Nat) (const Nat))))
(inductive Bool () 0 (sort (s 0)) (ctor true (const Bool)) (ctor false (const Bool)))
(inductive Eq (u) 2 (pi (sort u) (pi #0 (pi #1 (sort 0)))) (ctor refl (pi (sort u) (pi #0 (app (app (app (const Eq u) #1) #0) #0)))))
(inductive List (u) 1 (pi (sort (s u)) (sort (s u))) (ctor nil (pi (sort (s u)) (app (const List u) #0))) (ctor cons (pi (sort (s u)) (pi #0 (pi (app (const List u) #1) (app (const List u) #2))))))
(inductive Vec (u) 1 (pi (sort (s u)) (pi (const Nat) (sort (s u)))) (ctor vnil (pi (sort (s u)) (app (app (const Vec u) #0) (const zero)))) (ctor vcons (pi (sort (s u)) (pi (const Nat) (pi #1 (pi (app (app (const Vec u) #2) #1) (app (app (const Vec u) #3) (app (const succ) #2))))))))
(inductive W (u v) 2 (pi (sort (s u)) (pi (pi #0 (sort (s v))) (sort (s (max u v))))) (ctor sup (pi (sort (s u)) (pi (pi #0 (sort (s v))) (pi #1 (pi (pi (app #1 #0) (app (app (const W u v) #3) #2)) (app (app (const W u v) #3) #2)))))))
(inductive False () 0 (sort 0))
(inductive And () 2 (pi (sort 0) (pi (sort 0) (sort 0))) (ctor both (pi (sort 0) (pi (sort 0) (pi #1 (pi #1 (app (app (const And) #3) #2)))))))
(inductive Acc (u) 2 (pi (sort u) (pi (pi #0 (pi #1 (sort 0))) (pi #1 (sort 0)))) (ctor acc (pi (sort u) (pi (pi #0 (pi #1 (sort 0))) (pi #1 (pi (pi #2 (pi (app (app #2 #0) #1) (app (app (app (const Acc u) #4) #3) #1))) (app (app (app (const Acc u) #3) #2) #1)))))))
(def add () (pi (const Nat) (pi (const Nat) (const Nat))) (lam (const Nat) (lam (const Nat) (app (app (app (app (const Nat.rec (s 0)) (lam (const Nat) (const Nat))) #1) (lam (const Nat) (lam (const Nat) (app (const succ) #0)))) #0))))
(def one () (const Nat) (app (const succ) (const zero)))
(def two () (const Nat) (app (const succ) (const one)))
(def id (u) (pi (sort u) (pi #0 #1)) (lam (sort u) (lam #0 #0)))
(def Type () (sort (s (s 0))) (sort (s 0)))
(def N () (const Type) (const Nat))
(def Unary () (const Type) (pi (const Nat) (const Nat)))
(def Deep () (const Type) (app (app (const id (s (s 0))) (const Type)) (const Unary)))
(def Arr () (pi (const Nat) (const Type)) (lam (const Nat) (app (app (app (app (const Nat.rec (s (s 0))) (lam (const Nat) (const Type))) (const Nat)) (lam (const Nat) (lam (const Type) (pi (const Nat) #1)))) #0)))
(axiom n () (const N))
(axiom f () (const Unary))
(axiom g () (const Deep))
(axiom A () (const Type))
(axiom a () (const A))
(axiom arr () (pi (const Nat) (app (const Arr) #0)))
(axiom P () (pi (const Nat) (sort 0)))
(axiom p () (pi (const Nat) (app (const P) #0)))
(axiom q () (pi (app (const P) (const two)) (const Nat)))
(axiom both2 () (pi (pi (const Nat) (const Nat)) (pi (pi (const Bool) (const Nat)) (const Nat))))
(axiom Pair (u v) (pi (sort u) (pi (sort v) (sort (max u v)))))
(axiom F () (const False))
(axiom six (a b c d e f) (sort (max a (max b (max c (max d (max e f)))))))
`

// world knows all that.
func world(t testing.TB) *reduce.Env {
	t.Helper()
	e, n, err := kernel.File(worldText, 1000)
	if err != nil {
		t.Fatalf("declaration %d: %s", n, said(err))
	}
	return e
}

func declared(t testing.TB, text string) []api.Decl {
	t.Helper()
	ds, err := file.Parse(text)
	if err != nil {
		t.Fatalf("file.Parse(%.60q): %s", text, said(err))
	}
	return ds
}

// held is an environment that was filled without a look.
func held(t testing.TB, text string) *reduce.Env {
	t.Helper()
	e := reduce.New()
	for _, d := range declared(t, text) {
		e.Put(d, []string{"u", "v"}, parsed(t, "(pi (const x) (pi #4 (sort w)))"))
	}
	return e
}

func parsed(t testing.TB, text string) api.Term {
	t.Helper()
	made, err := term.Parse(text)
	if err != nil {
		t.Fatalf("term.Parse(%.60q): %s", text, said(err))
	}
	return made
}

// app is the text of an application to several arguments.
func app(f string, as ...string) string {
	for _, a := range as {
		f = "(app " + f + " " + a + ")"
	}
	return f
}

// num is the text of a number.
func num(n int) string {
	return strings.Repeat("(app (const succ) ", n) + "(const zero)" + strings.Repeat(")", n)
}

// levelNames: the parameters of most calls.
var levelNames = []string{"u", "v"}

// right: what said tells where there is no fault.
const right = "right"

// said is a fault as a text; its place must be 0.
func said(err error) string {
	names := map[int]string{api.FName: "FName", api.FParam: "FParam", api.FLevels: "FLevels", api.FVar: "FVar", api.FFun: "FFun", api.FArg: "FArg", api.FSort: "FSort", api.FTired: "FTired"}
	if err == nil {
		return right
	}
	var fault *api.Fault
	if !errors.As(err, &fault) || fault == nil {
		return "another error"
	}
	if fault.At != 0 || names[fault.Code] == "" {
		return "fault " + strconv.Itoa(fault.Code) + " at " + strconv.Itoa(fault.At)
	}
	return names[fault.Code]
}

// joined is a term of that kind with these very parts.
func joined(kind int, parts ...api.Term) api.Term { return api.Term{Kind: kind, Args: parts} }

func named(name string, ls ...api.Level) api.Term {
	return api.Term{Kind: api.Const, Name: name, Levels: ls}
}

func sort(l api.Level) api.Term { return api.Term{Kind: api.Sort, Levels: []api.Level{l}} }

func param(name string) api.Level { return api.Level{Kind: api.Param, Name: name} }

func succ(l api.Level) api.Level { return api.Level{Kind: api.Succ, Args: []api.Level{l}} }

// spine is (..(f a1) .. an), of the very terms.
func spine(f api.Term, as ...api.Term) api.Term {
	for _, a := range as {
		f = joined(api.App, f, a)
	}
	return f
}
