package check

import (
	"reflect"
	"strings"
	"testing"

	"provekernel/api"
	"provekernel/file"
	"provekernel/reduce"
)

// toldDecl is what Decl says of the declaration of a text.
func toldDecl(t *testing.T, e *reduce.Env, text string, fuel int) string {
	t.Helper()
	d := declared(t, text)[0]
	before := file.PrintAll(e.Decls())
	err := Decl(e, d, fuel)
	code, at := api.Code(err)
	if at != 0 {
		t.Errorf("Decl(%s): fault %d at %d", text, code, at)
	}
	if file.PrintAll(e.Decls()) != before {
		t.Errorf("Decl(%s) adds something", text)
	}
	if !reflect.DeepEqual(d, declared(t, text)[0]) {
		t.Errorf("Decl(%s) changes what is handed over", text)
	}
	return codeText(code)
}

func TestDecl(t *testing.T) {
	e := world(t)
	for _, c := range []struct{ text, want string }{
		{"(axiom x () (const Nat))", "no fault"},
		{"(axiom x () (const A))", "no fault"},
		{"(axiom x (u v) (pi (sort u) (pi #0 (sort (max u v)))))", "no fault"},
		{"(axiom x (u v) (sort 0))", "no fault"},
		{"(axiom x (x) (sort x))", "no fault"},
		{"(axiom x (Nat) (sort Nat))", "no fault"},
		{"(axiom x (a b c d e f) (sort (max a (max b (max c (max d (max e f)))))))", "no fault"},
		{"(axiom rec () (const Nat))", "no fault"},
		{"(axiom Nat.rec.rec () (const Nat))", "no fault"},
		{"(def x () (const Nat) (const zero))", "no fault"},
		{"(def x () (const Nat) (const n))", "no fault"},
		{"(def x (u) (pi (sort u) (pi #0 #1)) (lam (sort u) (lam #0 #0)))", "no fault"},
		{"(def x (u v) (pi (sort u) (sort (s v))) (lam (sort u) (sort v)))", "no fault"},
		{"(def x (u v) (sort (s (max u v))) (sort (max v u)))", "no fault"},
		{"(def x () (const Deep) (lam (const Nat) #0))", "no fault"},
		{"(def x () (pi (const Nat) (const N)) (const g))", "no fault"},
		{"(def x () " + app("(const Eq (s 0))", "(const Nat)", app("(const add)", "(const one)", "(const one)"), "(const two)") + " " + app("(const refl (s 0))", "(const Nat)", "(const two)") + ")", "no fault"},
		{"(def x () (pi (const False) (const Nat)) (app (const False.rec (s 0)) (lam (const False) (const Nat))))", "no fault"},

		// The name.
		{"(axiom Nat () (const Nat))", "FTwice"},
		{"(axiom zero () (const Nat))", "FTwice"},
		{"(axiom Nat.rec () (const Nat))", "FTwice"},
		{"(axiom a () (const Nat))", "FTwice"},
		{"(def add () (const Nat) (const zero))", "FTwice"},
		{"(axiom n (u u) #0)", "FTwice"},
		{"(def n () (const Nat) #0)", "FTwice"},

		// The parameters.
		{"(axiom x (u u) (sort u))", "FParam"},
		{"(axiom x (u v u) (sort u))", "FParam"},
		{"(axiom x (u v w v) #0)", "FParam"},
		{"(axiom x (a b c d e f g) (sort 0))", "FParam"},
		{"(axiom x (a b c d e f a) (sort 0))", "FParam"},
		{"(def x (u v w u) (const Nat) (const none))", "FParam"},

		// The type.
		{"(axiom x () #0)", "FVar"},
		{"(axiom x () (sort u))", "FParam"},
		{"(axiom x (u) (sort (max u v)))", "FParam"},
		{"(axiom x () (const x))", "FName"},
		{"(axiom x () (const Eq))", "FLevels"},
		{"(axiom x () (app (const Nat) (const Nat)))", "FFun"},
		{"(axiom x () (app (const P) (const Nat)))", "FArg"},
		{"(axiom x () (const zero))", "FSort"},
		{"(axiom x () (lam (const Nat) (const Nat)))", "FSort"},
		{"(axiom x () (const P))", "FSort"},
		{"(def x () (const zero) (const zero))", "FSort"},
		{"(def x () (const zero) (const none))", "FSort"},
		{"(def x () #0 (sort w))", "FVar"},

		// The value.
		{"(def x () (const Nat) #0)", "FVar"},
		{"(def x () (const Nat) (sort u))", "FParam"},
		{"(def x () (const Nat) (const none))", "FName"},
		{"(def x () (const Nat) (const x))", "FName"},
		{"(def x () (const Nat) (const refl))", "FLevels"},
		{"(def x () (const Nat) (app (const zero) (const zero)))", "FFun"},
		{"(def x () (const Nat) (app (const succ) (const a)))", "FArg"},
		{"(def x () (const Nat) (lam (const zero) #0))", "FSort"},
		{"(def x () (const Nat) (const succ))", "FArg"},
		{"(def x () (const Nat) (const a))", "FArg"},
		{"(def x () (const A) (const zero))", "FArg"},
		{"(def x (u) (sort u) (sort u))", "FArg"},
		{"(def x (u v) (sort (s (max u v))) (sort (imax u v)))", "FArg"},
		{"(def x () " + app("(const Eq (s 0))", "(const Nat)", "(const one)", "(const two)") + " " + app("(const refl (s 0))", "(const Nat)", "(const two)") + ")", "FArg"},
		{"(def x () (const False) (const Nat))", "FArg"},
	} {
		if got := toldDecl(t, e, c.text, 1000); got != c.want {
			t.Errorf("Decl(%s) = %s, want %s", c.text, got, c.want)
		}
	}
}

// The base itself is right, each declaration with those ahead of it.
func TestDeclOfTheWorld(t *testing.T) {
	e := reduce.New()
	for _, f := range families {
		d := declared(t, f[0])[0]
		e.Put(d, strings.Fields(f[1]), parsed(t, f[2]))
		// A family's type and those of its parts are types like others.
		for _, name := range []string{d.Name, d.Name + ".rec"} {
			params, typ, _ := e.Type(name)
			if err := Decl(e, api.Decl{Kind: api.Axiom, Name: "x", Params: params, Type: typ}, 100); err != nil {
				code, _ := api.Code(err)
				t.Errorf("the type of %s: %s", name, codeText(code))
			}
		}
	}
	for _, d := range declared(t, others) {
		if err := Decl(e, d, 100); err != nil {
			code, _ := api.Code(err)
			t.Errorf("Decl(%s) = %s", file.Print(d), codeText(code))
		}
		e.Put(d, nil, api.Term{})
	}
}
