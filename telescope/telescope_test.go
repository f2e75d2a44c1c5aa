package telescope

import (
	"strconv"
	"strings"
	"testing"

	"provekernel/api"
	"provekernel/term"
)

func parsed(t *testing.T, text string) api.Term {
	t.Helper()
	made, err := term.Parse(text)
	if err != nil {
		t.Fatal(text)
	}
	return made
}

func printed(ts []api.Term) string {
	var texts []string
	for _, made := range ts {
		texts = append(texts, term.Print(made))
	}
	return strings.Join(texts, " ")
}

func TestOf(t *testing.T) {
	for _, c := range []struct{ text, types, rest string }{
		{"#0", "", "#0"},
		{"(sort u)", "", "(sort u)"},
		{"(pi #0 #1)", "#0", "#1"},
		{"(pi (pi #0 #1) (pi #2 (sort 0)))", "(pi #0 #1) #2", "(sort 0)"},
		{"(pi #0 (lam #1 (pi #2 #3)))", "#0", "(lam #1 (pi #2 #3))"},
		{"(let #0 #1 (pi #2 #3))", "", "(let #0 #1 (pi #2 #3))"},
		{"(pi #0 (app (pi #1 #2) #3))", "#0", "(app (pi #1 #2) #3)"},
	} {
		made := parsed(t, c.text)
		types, rest := Of(made)
		if printed(types) != c.types || term.Print(rest) != c.rest {
			t.Errorf("Of(%s) = %s, %s", c.text, printed(types), term.Print(rest))
		}
		if got := term.Print(types.Bound(api.Pi, rest)); got != c.text {
			t.Errorf("Of(%s), bound again: %s", c.text, got)
		}
	}
	if types, _ := Of(api.Term{Kind: api.Pi}); types != nil {
		t.Errorf("Of a pi without parts: %d types", len(types))
	}
}

func TestBound(t *testing.T) {
	types := Types{parsed(t, "(const a)"), parsed(t, "#0"), parsed(t, "#1")}
	for kind, want := range map[int]string{api.Pi: "(pi (const a) (pi #0 (pi #1 #7)))", api.Lam: "(lam (const a) (lam #0 (lam #1 #7)))"} {
		if got := term.Print(types.Bound(kind, parsed(t, "#7"))); got != want {
			t.Errorf("bound: %s, want %s", got, want)
		}
	}
	if printed(types) != "(const a) #0 #1" {
		t.Errorf("Bound changes the types: %s", printed(types))
	}
}

// Contexts that share their front are each as if they were alone.
func TestWith(t *testing.T) {
	all, _ := Of(parsed(t, "(pi #0 (pi #1 (pi #2 (pi #3 (sort 0)))))"))
	front := all[:2]
	one := front.With(parsed(t, "(const a)"))
	two := front.With(parsed(t, "(const b)"), parsed(t, "(const c)"))
	three := one.With(parsed(t, "(const d)"))
	four := one.With(parsed(t, "(const e)"))
	none := front.With()
	five := append(none, parsed(t, "(const f)"))
	for i, c := range []struct {
		types Types
		want  string
	}{
		{all, "#0 #1 #2 #3"}, {front, "#0 #1"}, {one, "#0 #1 (const a)"}, {two, "#0 #1 (const b) (const c)"}, {three, "#0 #1 (const a) (const d)"}, {four, "#0 #1 (const a) (const e)"}, {none, "#0 #1"}, {five, "#0 #1 (const f)"},
	} {
		if printed(c.types) != c.want {
			t.Errorf("context %d: %s, want %s", i, printed(c.types), c.want)
		}
	}
}

func TestVariables(t *testing.T) {
	for _, c := range []struct {
		first, n int
		want     string
	}{{0, 0, ""}, {-1, 0, ""}, {0, 1, "#0"}, {4, 1, "#4"}, {2, 3, "#2 #1 #0"}, {9, 3, "#9 #8 #7"}} {
		if got := printed(Variables(c.first, c.n)); got != c.want {
			t.Errorf("Variables(%d, %d) = %s", c.first, c.n, got)
		}
	}
}

// Of a term with two own variables and two parameters: the own ones go over what stands behind, the parameters over both.
func TestMoved(t *testing.T) {
	const text = "(app (app #0 #1) (lam #2 (app #4 (app #1 #0))))"
	for _, c := range []struct {
		own, between, behind int
		want                 string
	}{
		{2, 0, 0, text},
		{2, 3, 0, "(app (app #0 #1) (lam #5 (app #7 (app #1 #0))))"},
		{2, 0, 5, "(app (app #5 #6) (lam #7 (app #9 (app #6 #0))))"},
		{2, 3, 5, "(app (app #5 #6) (lam #10 (app #12 (app #6 #0))))"},
		{0, 3, 5, "(app (app #8 #9) (lam #10 (app #12 (app #9 #0))))"},
		{4, 3, 0, text},
	} {
		if got := term.Print(Moved(parsed(t, text), c.own, c.between, c.behind)); got != c.want {
			t.Errorf("Moved(%d, %d, %d) = %s, want %s", c.own, c.between, c.behind, got, c.want)
		}
	}
}

func TestHypothesis(t *testing.T) {
	js := make([]api.Term, 0, 4)
	js = append(js, parsed(t, "#1"), parsed(t, "(const j)"))
	for n, want := range []string{
		"(app (app (app #5 #1) (const j)) #2)",
		"(pi (const x0) (app (app (app #6 #1) (const j)) (app #3 #0)))",
		"(pi (const x0) (pi (const x1) (app (app (app #7 #1) (const j)) (app (app #4 #1) #0))))",
	} {
		var xs Types
		for i := range n {
			xs = append(xs, parsed(t, "(const x"+strconv.Itoa(i)+")"))
		}
		if got := term.Print(Hypothesis(api.Pi, xs, js, 5, 2)); got != want {
			t.Errorf("with %d variables: %s, want %s", n, got, want)
		}
		if got := term.Print(Hypothesis(api.Lam, xs, js, 5, 2)); got != strings.ReplaceAll(want, "(pi ", "(lam ") {
			t.Errorf("of a lam, with %d variables: %s", n, got)
		}
		if printed(js[:4]) != "#1 (const j) #0 #0" {
			t.Errorf("Hypothesis writes behind what is handed over: %s", printed(js[:4]))
		}
	}
}
