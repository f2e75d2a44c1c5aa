package reduce

import (
	"reflect"
	"strconv"
	"strings"
	"testing"

	"provekernel/api"
	"provekernel/term"
)

// app is the text of (..(f a1) .. an).
func app(f string, as ...string) string {
	for _, a := range as {
		f = "(app " + f + " " + a + ")"
	}
	return f
}

// num is the text of a number.
func num(n int) string {
	return strings.Repeat("(app (const succ) ", n) + "(const zero)" + strings.Repeat(")", n)
}

const (
	natFun = "(lam (const Nat) (const Nat))"                             // a motive, the constant one
	plus   = "(lam (const Nat) (lam (const Nat) (app (const succ) #0)))" // the minor of a sum
	addOf  = "(app (app (app (const Nat.rec (s 0)) " + natFun + ") #1) " + plus + ")"
)

// reducer is Whnf or Normal.
type reducer func(e *Env, t api.Term, fuel int) (api.Term, int, error)

// checkForm: a reducer makes that form of a text, in just that many steps, with as much fuel and with more; not with less.
func checkForm(t *testing.T, what string, reduce reducer, e *Env, text, want string, steps int) {
	t.Helper()
	made := parsed(t, text)
	for _, fuel := range []int{steps, steps + 1, 1000, 100000} {
		got, n, err := reduce(e, made, fuel)
		if err != nil || term.Print(got) != want || n != steps {
			t.Errorf("%s(%s) with fuel %d = %s, %d, %v; want %s, %d", what, text, fuel, term.Print(got), n, err, want, steps)
		}
	}
	for fuel := range steps {
		got, n, err := reduce(e, made, fuel)
		code, at := api.Code(err)
		if code != api.FTired || at != 0 || n != 0 || !reflect.DeepEqual(got, api.Term{}) {
			t.Errorf("%s(%s) with fuel %d of %d: %s, %d, fault %d at %d", what, text, fuel, steps, term.Print(got), n, code, at)
		}
	}
	if term.Print(made) != text {
		t.Errorf("%s changes %s to %s", what, text, term.Print(made))
	}
}

// becomes: what a text becomes. If normal is empty, it is already in normal form when it is in weak head normal form.
type becomes struct {
	text   string
	whnf   string
	n      int
	normal string
	m      int
}

func checkForms(t *testing.T, e *Env, cs []becomes) {
	t.Helper()
	for _, c := range cs {
		if c.normal == "" {
			c.normal, c.m = c.whnf, c.n
		}
		checkForm(t, "Whnf", (*Env).Whnf, e, c.text, c.whnf, c.n)
		checkForm(t, "Normal", (*Env).Normal, e, c.text, c.normal, c.m)
	}
}

func TestNoStep(t *testing.T) {
	e := world(t)
	for _, text := range []string{
		"#0",
		"#7",
		"(sort u)",
		"(sort (imax u (max v (s 0))))",
		"(const n)",
		"(const P u (s v))",
		"(const Nat)",
		"(const zero)",
		"(const unknown u)",
		"(app #0 #1)",
		"(app (const f) (const n))",
		"(app (const unknown) #3)",
		num(4),
		"(lam (const Nat) #0)",
		"(lam #0 (app #1 #0))",
		"(pi (sort u) (pi #0 #1))",
		"(const Nat.rec u)",
		"(lam (const Nat) (lam #1 (app #2 (app #1 #0))))",
	} {
		checkForms(t, e, []becomes{{text: text, whnf: text}})
	}
}

func TestBeta(t *testing.T) {
	checkForms(t, world(t), []becomes{
		{text: "(app (lam (const Nat) #0) (const n))", whnf: "(const n)", n: 1},
		{text: "(app (lam (const Nat) #1) (const n))", whnf: "#0", n: 1},
		{text: "(app (lam (const Nat) (app #0 (app #1 #2))) #5)", whnf: "(app #5 (app #0 #1))", n: 1},
		{text: "(app (app (lam (const Nat) (lam (const Nat) #1)) #3) #4)", whnf: "#3", n: 2},
		{text: "(app (lam (const Nat) (lam (const Nat) #1)) #3)", whnf: "(lam (const Nat) #4)", n: 1},
		{text: "(app (lam (const Nat) (lam #0 (pi #1 (app #2 #3)))) (app #0 #1))", whnf: "(lam (app #0 #1) (pi (app #1 #2) (app (app #2 #3) #2)))", n: 1},
		{text: "(app (lam (const Nat) #0) (lam (const Nat) #0))", whnf: "(lam (const Nat) #0)", n: 1},
		{text: "(app (app (lam (const Nat) #0) (lam (const Nat) #0)) #2)", whnf: "#2", n: 2},
		{text: "(app (lam (const Nat) (app (lam (const Nat) #0) #0)) #2)", whnf: "#2", n: 2},
		{text: "(app (const f) (app (lam (const Nat) #0) #1))", whnf: "(app (const f) (app (lam (const Nat) #0) #1))", n: 0, normal: "(app (const f) #1)", m: 1},
		{text: "(app (lam (const Nat) (const n)) (app (lam (const Nat) #0) #1))", whnf: "(const n)", n: 1},
		{text: "(app (lam (const Nat) (app (app #7 #0) #0)) (app (lam (const Nat) #0) #1))", whnf: "(app (app #6 (app (lam (const Nat) #0) #1)) (app (lam (const Nat) #0) #1))", n: 1, normal: "(app (app #6 #1) #1)", m: 3},
		{text: "(app (app #0 #1) (app (lam (const Nat) #0) #2))", whnf: "(app (app #0 #1) (app (lam (const Nat) #0) #2))", n: 0, normal: "(app (app #0 #1) #2)", m: 1},
	})
}

func TestZeta(t *testing.T) {
	checkForms(t, world(t), []becomes{
		{text: "(let (const Nat) (const n) #0)", whnf: "(const n)", n: 1},
		{text: "(let (const Nat) (const n) #1)", whnf: "#0", n: 1},
		{text: "(let (const Nat) #3 (lam #0 (app #0 #1)))", whnf: "(lam #3 (app #0 #4))", n: 1},
		{text: "(let (const Nat) #3 (let #0 #0 (app #0 (app #1 #2))))", whnf: "(app #3 (app #3 #0))", n: 2},
		{text: "(app (let (const Nat) (const n) (lam (const Nat) (app #0 #1))) #4)", whnf: "(app #4 (const n))", n: 2},
		{text: "(let (const Nat) (let (const Nat) #1 #0) (app #1 #0))", whnf: "(app #0 (let (const Nat) #1 #0))", n: 1, normal: "(app #0 #1)", m: 2},
		{text: "(app (const f) (let (const Nat) (const n) #0))", whnf: "(app (const f) (let (const Nat) (const n) #0))", n: 0, normal: "(app (const f) (const n))", m: 1},
		{text: "(let (app (lam #0 #0) #1) (const n) #0)", whnf: "(const n)", n: 1},
	})
}

func TestDelta(t *testing.T) {
	checkForms(t, world(t), []becomes{
		{text: "(const one)", whnf: "(app (const succ) (const zero))", n: 1},
		{text: "(const two)", whnf: "(app (const succ) (const one))", n: 1, normal: num(2), m: 2},
		{text: "(const id (s v))", whnf: "(lam (sort (s v)) (lam #0 #0))", n: 1},
		{text: "(const id u)", whnf: "(lam (sort u) (lam #0 #0))", n: 1},
		{text: "(app (const id (max u v)) (const Nat))", whnf: "(lam (const Nat) #0)", n: 2},
		{text: "(app (app (const id) (const T)) (const x))", whnf: "(const x)", n: 3},
		{text: "(const pair (s 0) w)", whnf: "(lam (sort (s 0)) (lam (sort w) (app (app (const P w (s 0)) #1) #0)))", n: 1},
		// A level's parameter is not put into once more what was put in for another one.
		{text: "(const pair v u)", whnf: "(lam (sort v) (lam (sort u) (app (app (const P u v) #1) #0)))", n: 1},
		{text: "(app (const f) (const one))", whnf: "(app (const f) (const one))", n: 0, normal: "(app (const f) (app (const succ) (const zero)))", m: 1},
	})
}

// Levels go from definition to definition.
func TestDeltaOfLevelsInLevels(t *testing.T) {
	e := New()
	put(t, e, `(def a (u v) (sort (s (max u v))) (sort (max u v)))
(def b (u v) (sort (s (max v (s u)))) (const a v (s u)))
(def c (v) (sort (s (s (imax v w)))) (const b (imax v w) 0))
(def d (u u) (sort (s u)) (sort u))`, nil, "")
	checkForms(t, e, []becomes{
		{text: "(const a u v)", whnf: "(sort (max u v))", n: 1},
		{text: "(const b u v)", whnf: "(sort (max v (s u)))", n: 2},
		{text: "(const b v (s v))", whnf: "(sort (max (s v) (s v)))", n: 2},
		{text: "(const c (max u v))", whnf: "(sort (max 0 (s (imax (max u v) w))))", n: 3},
		{text: "(const d 0 (s 0))", whnf: "(sort 0)", n: 1},
	})
}

func TestIotaWithoutParameters(t *testing.T) {
	rec := app("(const Nat.rec (s 0))", natFun, "(const n)", plus)
	ifs := app("(const Bool.rec w)", "(lam (const Bool) #0)", "#1", "#2")
	checkForms(t, world(t), []becomes{
		{text: app(rec, "(const zero)"), whnf: "(const n)", n: 1},
		{text: app(rec, num(1)), whnf: app("(const succ)", app(rec, "(const zero)")), n: 3, normal: "(app (const succ) (const n))", m: 4},
		{text: app(rec, "(const one)"), whnf: app("(const succ)", app(rec, "(const zero)")), n: 4, normal: "(app (const succ) (const n))", m: 5},
		{text: app(rec, "(app (lam (const Nat) #0) (const one))"), whnf: app("(const succ)", app(rec, "(const zero)")), n: 5, normal: "(app (const succ) (const n))", m: 6},
		{text: app("(const Nat.rec (s 0))", "#0", "#1", "#2", "(app (const succ) #3)"), whnf: app("#2", "#3", app("(const Nat.rec (s 0))", "#0", "#1", "#2", "#3")), n: 1},
		{text: app(ifs, "(const yes)"), whnf: "#1", n: 1},
		{text: app(ifs, "(const no)"), whnf: "#2", n: 1},
		{text: app(ifs, "(const no)", "#3", "#4"), whnf: "(app (app #2 #3) #4)", n: 1},
		{text: app("(const add)", "(const one)", "(const one)"), whnf: app("(const succ)", app("(const Nat.rec (s 0))", natFun, "(const one)", plus, "(const zero)")), n: 7, normal: num(2), m: 9},
	})
}

// The recursor's levels go on with it; those of a family's types are the constructor's, as the major has them.
func TestIotaLevels(t *testing.T) {
	rec := func(major string) string {
		return app("(const W.rec (max r v) (max u 0) v)", "(sort u)", "#0", "#1", "#2", major)
	}
	sup := app("(const sup u (max v v))", "(sort u)", "#5", "#3", "#4")
	hyp := "(lam (app #0 #3) " + app("(const W.rec (max r v) (max u 0) v)", "(sort u)", "#1", "#2", "#3", "(app #5 #0)") + ")"
	checkForms(t, world(t), []becomes{
		{text: rec(sup), whnf: app("#2", "#3", "#4", hyp), n: 1},
	})
	e := New()
	put(t, e, "(inductive F (u v) 0 (sort (s (max u v))) (ctor c (pi (pi (sort u) (pi (sort v) (const F u v))) (const F u v))))", nil, "#0")
	put(t, e, "(def m (v u) (pi (const T) (const F (s v) u)) (lam (const T) (app (const c (s v) u) #0)))", nil, "")
	again := app("(const F.rec v u)", "#3", "#4", "(app (app #2 #1) #0)")
	checkForms(t, e, []becomes{
		{text: app("(const F.rec v u)", "#1", "#2", "(app (const c u (max v u)) #0)"), whnf: app("#2", "#0", "(lam (sort u) (lam (sort (max v u)) "+again+"))"), n: 1},
		{text: app("(const F.rec v u)", "#1", "#2", "(app (const m u v) #0)"), whnf: app("#2", "#0", "(lam (sort (s u)) (lam (sort v) "+again+"))"), n: 3},
	})
}

func TestIotaWithParameters(t *testing.T) {
	rec := func(major string, more ...string) string {
		return app(app("(const List.rec r u)", "#0", "#1", "#2", "#3", major), more...)
	}
	checkForms(t, world(t), []becomes{
		{text: rec("(app (const nil u) #7)"), whnf: "#2", n: 1},
		{text: rec("(app (const nil u) #7)", "#8", "#9"), whnf: "(app (app #2 #8) #9)", n: 1},
		{text: rec(app("(const cons u)", "#7", "#8", "#9")), whnf: app("#3", "#8", "#9", rec("#9")), n: 1},
		{text: rec(app("(const cons u)", "#7", "#8", "#9"), "#10", "#11"), whnf: app("#3", "#8", "#9", rec("#9"), "#10", "#11"), n: 1},
		{text: rec(app("(const cons u)", "#7", "#8", "(app (const nil u) #9)")), whnf: app("#3", "#8", "(app (const nil u) #9)", rec("(app (const nil u) #9)")), n: 1, normal: app("#3", "#8", "(app (const nil u) #9)", "#2"), m: 2},
	})
}

// A parameter by which an argument has the family's type does not make that argument recursive.
func TestIotaOfAListOfLists(t *testing.T) {
	lists := "(app (const List u) #0)"
	rec := func(major string) string { return app("(const List.rec r u)", lists, "#1", "#2", "#3", major) }
	inner := app("(const cons u)", "#0", "#4", "#5")
	checkForms(t, world(t), []becomes{
		{text: rec(app("(const cons u)", lists, inner, "#6")), whnf: app("#3", inner, "#6", rec("#6")), n: 1},
	})
}

func TestIotaWithIndices(t *testing.T) {
	rec := func(index, major string, more ...string) string {
		return app(app("(const Vec.rec r u)", "#0", "#1", "#2", "#3", index, major), more...)
	}
	vcons := app("(const vcons u)", "#4", "#5", "#6", "#7")
	checkForms(t, world(t), []becomes{
		{text: rec("#9", "(app (const vnil u) #4)"), whnf: "#2", n: 1},
		{text: rec("#9", "(app (const vnil u) #4)", "#10"), whnf: "(app #2 #10)", n: 1},
		{text: rec("#9", vcons), whnf: app("#3", "#5", "#6", "#7", rec("#5", "#7")), n: 1},
		{text: rec("#9", vcons, "#10", "#11"), whnf: app("#3", "#5", "#6", "#7", rec("#5", "#7"), "#10", "#11"), n: 1},
		{text: "(lam (const Nat) (lam #0 " + rec("#9", vcons) + "))", whnf: "(lam (const Nat) (lam #0 " + rec("#9", vcons) + "))", normal: "(lam (const Nat) (lam #0 " + app("#3", "#5", "#6", "#7", rec("#5", "#7")) + "))", m: 1},
	})
}

func TestIotaOfFunctions(t *testing.T) {
	rec := func(major string) string {
		return app("(const W.rec r u v)", "#0", "(lam #0 #2)", "#2", "#3", major)
	}
	up := func(major string) string {
		return app("(const W.rec r u v)", "#1", "(lam #1 #3)", "#3", "#4", major)
	}
	sup := app("(const sup u v)", "#8", "#9", "#5", "#6")
	// The parameters of the hypothesis' types are the recursor's, too.
	hyp := "(lam (app (lam #0 #2) #5) " + up("(app #7 #0)") + ")"
	checkForms(t, world(t), []becomes{
		{text: rec(sup), whnf: app("#3", "#5", "#6", hyp), n: 1, normal: app("#3", "#5", "#6", "(lam #1 "+up("(app #7 #0)")+")"), m: 2},
	})
	ws := "(lam (const Nat) (lam (const A) (lam (const B) (app #0 #2))))"
	checkForms(t, world(t), []becomes{{
		text: app("(const W.rec r u v)", "#0", "#1", "#2", ws, sup),
		whnf: app("(const W.rec r u v)", "#0", "#1", "#2", ws, "(app #6 #5)"),
		n:    5,
	}})
}

// Recursive arguments ahead of others, between them, several of them, with several binders and indices of their own.
func TestIotaOfManyArguments(t *testing.T) {
	e := New()
	put(t, e, `(inductive I (u) 2 (pi (sort u) (pi #0 (pi #1 (pi #2 (sort (s u))))))
(ctor other (pi (sort u) (pi #0 (app (app (app (app (const I u) #1) #0) #0) #0))))
(ctor many (pi (sort u) (pi #0
  (pi (app (app (app (app (const I u) #1) #0) #0) #0)
  (pi #2
  (pi (pi #3 (pi (sort u) (app (app (app (app (const I u) #5) #4) #1) #2)))
  (pi (pi #4 #5)
  (pi (app (app (app (app (const I u) #5) #4) #2) (app (const h) #2))
  (app (app (app (app (const I u) #6) #5) #3) #5))))))))))`, []string{"r", "u"}, "#0")
	rec := func(lift int, i, j, major string) string {
		v := func(n int) string { return "#" + strconv.Itoa(n+lift) }
		return app("(const I.rec r u)", v(0), v(1), v(2), v(3), v(4), i, j, major)
	}
	many := app("(const many (s v))", "#20", "#21", "#10", "#11", "#12", "#13", "#14")
	want := app("#4", "#10", "#11", "#12", "#13", "#14",
		rec(0, "#1", "#1", "#10"),
		"(lam #0 (lam (sort (s v)) "+rec(2, "#1", "#13", "(app (app #14 #1) #0)")+"))",
		rec(0, "#11", "(app (const h) #11)", "#14"))
	checkForms(t, e, []becomes{
		{text: rec(0, "#6", "#7", many), whnf: want, n: 1},
		{text: app(rec(0, "#6", "#7", many), "#15"), whnf: app(want, "#15"), n: 1},
		{text: rec(0, "#6", "#7", "(app (app (const other v) #8) #9)"), whnf: "#3", n: 1},
	})
}

func TestStuckRecursors(t *testing.T) {
	rec := app("(const Nat.rec (s 0))", natFun, "(const n)", "(const add)")
	add := "(lam (const Nat) (lam (const Nat) (app " + addOf + " #0)))"
	stuck := app("(const Nat.rec (s 0))", natFun, "(const n)", plus)
	idF := "(app (app (const id (s 0)) (const Nat)) (app (const f) (const n)))"
	checkForms(t, world(t), []becomes{
		{text: app(stuck, "(const n)"), whnf: app(stuck, "(const n)")},
		{text: app(stuck, "#0"), whnf: app(stuck, "#0")},
		{text: app(stuck, "(app (const f) (const zero))"), whnf: app(stuck, "(app (const f) (const zero))")},
		// The major stays as it was, its three steps count; normal brings it to its form once more.
		{text: app(stuck, idF), whnf: app(stuck, idF), n: 3, normal: app(stuck, "(app (const f) (const n))"), m: 6},
		{text: app(stuck, "(app (lam (const Nat) #0) (const n))", "#1", "#2"), whnf: app(stuck, "(app (lam (const Nat) #0) (const n))", "#1", "#2"), n: 1, normal: app(stuck, "(const n)", "#1", "#2"), m: 2},
		// One that is stuck within another one that is: each looks at what is within it.
		{text: app(stuck, app(stuck, "(app (lam (const Nat) #0) #3)")), whnf: app(stuck, app(stuck, "(app (lam (const Nat) #0) #3)")), n: 1, normal: app(stuck, app(stuck, "#3")), m: 3},
		{text: app(rec, "(app (const f) (const one))"), whnf: app(rec, "(app (const f) (const one))"), normal: app("(const Nat.rec (s 0))", natFun, "(const n)", add, "(app (const f) (app (const succ) (const zero)))"), m: 2},
		// Too few arguments.
		{text: "(const Nat.rec (s 0))", whnf: "(const Nat.rec (s 0))"},
		{text: stuck, whnf: stuck},
		{text: rec, whnf: rec, normal: app("(const Nat.rec (s 0))", natFun, "(const n)", add), m: 1},
		{text: app("(const Vec.rec r u)", "#0", "#1", "#2", "#3", "(app (const vnil u) #4)"), whnf: app("(const Vec.rec r u)", "#0", "#1", "#2", "#3", "(app (const vnil u) #4)")},
		// A constructor of another family, one with too few arguments, one with too many; no constructors at all.
		{text: app(stuck, "(const yes)"), whnf: app(stuck, "(const yes)")},
		{text: app(stuck, "(const succ)"), whnf: app(stuck, "(const succ)")},
		{text: app(stuck, "(app (const zero) #0)"), whnf: app(stuck, "(app (const zero) #0)")},
		{text: app("(const List.rec r u)", "#0", "#1", "#2", "#3", "(const nil u)"), whnf: app("(const List.rec r u)", "#0", "#1", "#2", "#3", "(const nil u)")},
		{text: app("(const False.rec r)", "#0", "(const k)"), whnf: app("(const False.rec r)", "#0", "(const k)")},
		{text: app("(const False.rec r)", "#0"), whnf: app("(const False.rec r)", "#0")},
	})
}

func TestNormalUnderBinders(t *testing.T) {
	checkForms(t, world(t), []becomes{
		{text: "(lam (app (lam (sort u) #0) (const Nat)) (app (lam #0 #0) #0))", whnf: "(lam (app (lam (sort u) #0) (const Nat)) (app (lam #0 #0) #0))", normal: "(lam (const Nat) #0)", m: 2},
		{text: "(pi (app (lam (sort u) #0) #3) (app (lam #0 (app #0 #1)) (app #1 #2)))", whnf: "(pi (app (lam (sort u) #0) #3) (app (lam #0 (app #0 #1)) (app #1 #2)))", normal: "(pi #3 (app (app #1 #2) #0))", m: 2},
		{text: "(lam (const Nat) (app (app (const add) #0) (const one)))", whnf: "(lam (const Nat) (app (app (const add) #0) (const one)))", normal: "(lam (const Nat) (app (const succ) #0))", m: 8},
		{text: "(lam (const Nat) (lam (const Nat) (app (app (lam (const Nat) (lam (const Nat) (app #0 (app #1 (app #2 #3))))) #0) #1)))", whnf: "(lam (const Nat) (lam (const Nat) (app (app (lam (const Nat) (lam (const Nat) (app #0 (app #1 (app #2 #3))))) #0) #1)))", normal: "(lam (const Nat) (lam (const Nat) (app #1 (app #0 (app #0 #1)))))", m: 2},
		{text: "(app (lam (const Nat) (lam (const Nat) (lam (const Nat) (app #2 (app #1 #0))))) (lam (const Nat) (app #1 #0)))", whnf: "(lam (const Nat) (lam (const Nat) (app (lam (const Nat) (app #3 #0)) (app #1 #0))))", n: 1, normal: "(lam (const Nat) (lam (const Nat) (app #2 (app #1 #0))))", m: 2},
		{text: "(app #0 (lam (const one) (pi (const one) (const one))))", whnf: "(app #0 (lam (const one) (pi (const one) (const one))))", normal: "(app #0 (lam " + num(1) + " (pi " + num(1) + " " + num(1) + ")))", m: 3},
	})
}

func TestNumbers(t *testing.T) {
	e := world(t)
	for _, c := range []struct{ f, a, b, want int }{{0, 7, 5, 12}, {0, 0, 3, 3}, {0, 9, 0, 9}, {1, 3, 4, 12}, {1, 0, 5, 0}, {1, 9, 9, 81}} {
		f := []string{"(const add)", "(const mul)"}[c.f]
		got, steps, err := e.Normal(parsed(t, app(f, num(c.a), num(c.b))), 10000)
		if err != nil || term.Print(got) != num(c.want) {
			t.Errorf("%s of %d and %d: %s, %v", f, c.a, c.b, term.Print(got), err)
		}
		if want := 3 + 3*c.b + 1; c.f == 0 && steps != want {
			t.Errorf("%d + %d takes %d steps, want %d", c.a, c.b, steps, want)
		}
	}
}
