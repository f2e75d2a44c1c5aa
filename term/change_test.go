package term

import (
	"math"
	"math/rand"
	"testing"

	"provekernel/api"
	"provekernel/level"
	"provekernel/tree"
)

func TestLift(t *testing.T) {
	for _, c := range []struct {
		text    string
		n, from int
		want    string
	}{
		{"#0", 1, 0, "#1"},
		{"#0", 1, 1, "#0"},
		{"#4", 3, 4, "#7"},
		{"#4", 3, 5, "#4"},
		{"#4", 0, 0, "#4"},
		{"#99999", 1, 0, "#100000"},
		{"(sort u)", 2, 0, "(sort u)"},
		{"(const a u)", 2, 0, "(const a u)"},
		{"(app #0 #1)", 2, 1, "(app #0 #3)"},
		{"(lam #0 (app #0 #1))", 2, 0, "(lam #2 (app #0 #3))"},
		{"(pi #0 (app #0 #1))", 2, 0, "(pi #2 (app #0 #3))"},
		{"(pi #0 (let #1 #2 (app #3 #2)))", 3, 1, "(pi #0 (let #1 #5 (app #6 #2)))"},
		{"(let #0 #0 #0)", 1, 0, "(let #1 #1 #0)"},
		{"(let #0 #0 #1)", 1, 0, "(let #1 #1 #2)"},
		{"(let #1 #0 (lam #0 (app #2 (app #1 #3))))", 5, 1, "(let #6 #0 (lam #0 (app #2 (app #1 #8))))"},
		{"(lam (lam #0 #1) (lam #0 (app #2 #1)))", 1, 0, "(lam (lam #1 #2) (lam #0 (app #3 #1)))"},
		{"(lam #0 #0)", 1, -3, "(lam #1 #0)"},
		{"(lam #3 #4)", 1, math.MaxInt, "(lam #3 #4)"},
	} {
		made := parsed(t, c.text)
		if got := Print(Lift(made, c.n, c.from)); got != c.want {
			t.Errorf("Lift(%s, %d, %d) = %s, want %s", c.text, c.n, c.from, got, c.want)
		}
		if got := Print(made); got != c.text {
			t.Errorf("Lift changes %s to %s", c.text, got)
		}
	}
}

func TestSubst(t *testing.T) {
	for _, c := range []struct{ text, put, want string }{
		{"#0", "#0", "#0"},
		{"#0", "(const a)", "(const a)"},
		{"#1", "(const a)", "#0"},
		{"#9", "(const a)", "#8"},
		{"(sort u)", "#5", "(sort u)"},
		{"(app #0 #1)", "(sort 0)", "(app (sort 0) #0)"},
		{"(app #0 #0)", "(lam #0 #1)", "(app (lam #0 #1) (lam #0 #1))"},
		{"(lam #0 #1)", "#3", "(lam #3 #4)"},
		{"(lam #0 #0)", "#3", "(lam #3 #0)"},
		{"(lam #0 #2)", "#3", "(lam #3 #1)"},
		{"(pi #1 #1)", "(app #0 #7)", "(pi #0 (app #1 #8))"},
		{"(let #0 #1 (app #0 (app #1 #2)))", "(app #0 #5)", "(let (app #0 #5) #0 (app #0 (app (app #1 #6) #1)))"},
		{"(let #1 #0 #1)", "#2", "(let #0 #2 #3)"},
		{"(pi #2 (pi #0 (app #2 #3)))", "(lam #0 #1)", "(pi #1 (pi #0 (app (lam #2 #3) #2)))"},
		{"(lam #0 (lam #1 (app #0 (app #1 #2))))", "(pi #0 #0)", "(lam (pi #0 #0) (lam (pi #1 #0) (app #0 (app #1 (pi #2 #0)))))"},
	} {
		made, put := parsed(t, c.text), parsed(t, c.put)
		if got := Print(Subst(made, put)); got != c.want {
			t.Errorf("Subst(%s, %s) = %s, want %s", c.text, c.put, got, c.want)
		}
		if Print(made) != c.text || Print(put) != c.put {
			t.Errorf("Subst changes %s, %s to %s, %s", c.text, c.put, Print(made), Print(put))
		}
	}
}

// held against laws that bind Lift and Subst together, on terms by chance.
func TestLiftAndSubstByLaws(t *testing.T) {
	r := rand.New(rand.NewSource(2))
	for range 3000 {
		made, v, w := madeTerm(r, 4), madeTerm(r, 3), madeTerm(r, 3)
		n, m, from := r.Intn(4), r.Intn(4), r.Intn(4)
		for _, law := range []struct {
			what string
			a, b api.Term
		}{
			{"Lift twice", Lift(Lift(made, n, from), m, from), Lift(made, n+m, from)},
			{"Lift above and below", Lift(Lift(made, n, from), m, 0), Lift(Lift(made, m, 0), n, from+m)},
			{"Subst of what is not there", Subst(Lift(made, 1, 0), v), made},
			{"Lift of Subst", Lift(Subst(made, v), n, from), Subst(Lift(made, n, from+1), Lift(v, n, from))},
			{"Subst under a binder", Subst(node(api.Lam, tree.Variable(0), made), v), node(api.Lam, v, substUnder(made, v))},
			{"Subst of Subst", Subst(Subst(made, v), w), Subst(substUnder(made, w), Subst(v, w))},
		} {
			if !Equal(law.a, law.b) {
				t.Fatalf("%s, of %s, %s, %s, %d, %d, %d: %s is not %s", law.what, Print(made), Print(v), Print(w), n, m, from, Print(law.a), Print(law.b))
			}
		}
	}
}

// substUnder: Subst of the free variable 1, as it is under one binder, by a way that takes two variables' places.
func substUnder(t, v api.Term) api.Term {
	swapped := Subst(Subst(Lift(t, 2, 2), tree.Variable(2)), tree.Variable(0))
	return Subst(swapped, Lift(v, 1, 0))
}

func TestLevels(t *testing.T) {
	for _, c := range []struct {
		text   string
		params []string
		levels []api.Level
		want   string
	}{
		{"#3", []string{"u"}, []api.Level{zero}, "#3"},
		{"(sort u)", nil, nil, "(sort u)"},
		{"(sort u)", []string{"u"}, []api.Level{succ(u)}, "(sort (s u))"},
		{"(sort (max u w))", []string{"u", "v"}, []api.Level{v, u}, "(sort (max v w))"},
		{"(const u u v)", []string{"u", "v"}, []api.Level{v, u}, "(const u v u)"},
		{"(const a u)", []string{"u", "u"}, []api.Level{zero, v}, "(const a 0)"},
		{"(app (sort u) (const a v (s u)))", []string{"u"}, []api.Level{v}, "(app (sort v) (const a v (s v)))"},
		{"(lam (sort u) (pi #0 (let #1 (sort u) (const b u))))", []string{"u"}, []api.Level{zero}, "(lam (sort 0) (pi #0 (let #1 (sort 0) (const b 0))))"},
	} {
		made := parsed(t, c.text)
		if got := Print(Levels(made, c.params, c.levels)); got != c.want {
			t.Errorf("Levels of %s: %s, want %s", c.text, got, c.want)
		}
		if got := Print(made); got != c.text {
			t.Errorf("Levels changes %s to %s", c.text, got)
		}
	}
}

// overwrite: every list of a term is filled with others, from within.
func overwrite(t api.Term) {
	for i := range t.Args {
		overwrite(t.Args[i])
		t.Args[i] = constant("overwritten")
	}
	for i := range t.Levels {
		overwriteLevel(t.Levels[i])
		t.Levels[i] = param("overwritten")
	}
}

func overwriteLevel(l api.Level) {
	for i := range l.Args {
		overwriteLevel(l.Args[i])
		l.Args[i] = param("overwritten")
	}
}

func TestAnswersAreNewMemory(t *testing.T) {
	const text, put = "(app (app #0 (lam (sort (s u)) #1)) (let #0 #1 (const a (max u v))))", "(pi (const b (s u)) (sort (max v w)))"
	level1 := succ(succ(u))
	for _, c := range []struct {
		what string
		call func(a, b api.Term) []api.Term
	}{
		{"Lift", func(a, b api.Term) []api.Term { return []api.Term{Lift(a, 1, 0), Lift(b, 0, 5)} }},
		{"Subst", func(a, b api.Term) []api.Term { return []api.Term{Subst(a, b)} }},
		{"Subst of what is not there", func(a, b api.Term) []api.Term { return []api.Term{Subst(b, a)} }},
		{"Subst whole", func(a, b api.Term) []api.Term { return []api.Term{Subst(tree.Variable(0), b)} }},
		{"Levels", func(a, b api.Term) []api.Term {
			return []api.Term{Levels(a, []string{"u"}, []api.Level{level1}), Levels(b, nil, nil)}
		}},
		{"Spine", func(a, b api.Term) []api.Term {
			f, as := Spine(a)
			return append(as, f)
		}},
		{"Spine of no application", func(a, b api.Term) []api.Term {
			f, _ := Spine(b)
			return []api.Term{f}
		}},
		{"Apply", func(a, b api.Term) []api.Term { return []api.Term{Apply(a, []api.Term{b, b})} }},
		{"Apply to nothing", func(a, b api.Term) []api.Term { return []api.Term{Apply(a, nil)} }},
	} {
		a, b := parsed(t, text), parsed(t, put)
		for _, got := range c.call(a, b) {
			overwrite(got)
		}
		if Print(a) != text || Print(b) != put || level.Print(level1) != "(s (s u))" {
			t.Errorf("the answer of %s shares a list with its arguments: %s, %s, %s", c.what, Print(a), Print(b), level.Print(level1))
		}
	}
}

func TestListsOfOneAnswerAreNotShared(t *testing.T) {
	const put = "(pi (const b (s u)) (sort (max v w)))"
	whole := Subst(parsed(t, "(app #0 #0)"), parsed(t, put))
	overwrite(whole.Args[0])
	if got := Print(whole.Args[1]); got != put {
		t.Errorf("of Subst: %s", got)
	}
	b := parsed(t, put)
	whole = Apply(b, []api.Term{b})
	overwrite(whole.Args[0])
	if got := Print(whole.Args[1]); got != put {
		t.Errorf("of Apply: %s", got)
	}
	whole = Levels(parsed(t, "(const a u u)"), []string{"u"}, []api.Level{succ(succ(v))})
	overwriteLevel(whole.Levels[0])
	if got := level.Print(whole.Levels[1]); got != "(s (s v))" {
		t.Errorf("of Levels: %s", got)
	}
	f, as := Spine(node(api.App, b, b))
	overwrite(f)
	if got := Print(as[0]); got != put {
		t.Errorf("of Spine: %s", got)
	}
}
