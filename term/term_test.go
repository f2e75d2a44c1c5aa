package term

import (
	"math/rand"
	"reflect"
	"strconv"
	"strings"
	"testing"

	"provekernel/api"
	"provekernel/tree"
)

var (
	zero = api.Level{Kind: api.Zero}
	u, v = param("u"), param("v")
)

func param(name string) api.Level { return api.Level{Kind: api.Param, Name: name} }

func succ(l api.Level) api.Level { return api.Level{Kind: api.Succ, Args: []api.Level{l}} }

func sort(l api.Level) api.Term { return api.Term{Kind: api.Sort, Levels: []api.Level{l}} }

func constant(name string, ls ...api.Level) api.Term {
	return api.Term{Kind: api.Const, Name: name, Levels: ls}
}

func parsed(t *testing.T, text string) api.Term {
	t.Helper()
	made, err := Parse(text)
	if err != nil {
		code, at := api.Code(err)
		t.Fatalf("Parse(%.60q): fault %d at %d", text, code, at)
	}
	return made
}

func allParsed(t *testing.T, texts ...string) []api.Term {
	t.Helper()
	var made []api.Term
	for _, text := range texts {
		made = append(made, parsed(t, text))
	}
	return made
}

func TestParseMakesTrees(t *testing.T) {
	x, y, z := tree.Variable(0), tree.Variable(1), tree.Variable(2)
	name := strings.Repeat("n", 40)
	for _, c := range []struct {
		text string
		want api.Term
	}{
		{"#0", x},
		{"#7", tree.Variable(7)},
		{"#10", tree.Variable(10)},
		{"#99999", tree.Variable(99999)},
		{" \t\n#1\n", y},
		{"(sort 0)", sort(zero)},
		{"(sort u)", sort(u)},
		{"(sort (max u (s v)))", sort(api.Level{Kind: api.Max, Args: []api.Level{u, succ(v)}})},
		{"(const a)", constant("a")},
		{"(const a.b' u 0 (s v))", constant("a.b'", u, zero, succ(v))},
		{"(const a 0u 0(s v)v)", constant("a", zero, u, zero, succ(v), v)},
		{"(const const sort s)", constant("const", param("sort"), param("s"))},
		{"(const " + name + " " + name + ")", constant(name, param(name))},
		{"(sort max)", sort(param("max"))},
		{"(app #0 #1)", node(api.App, x, y)},
		{"(app#0#1)", node(api.App, x, y)},
		{"(lam #0 #1)", node(api.Lam, x, y)},
		{"(pi #0 #1)", node(api.Pi, x, y)},
		{"(let #0 #1 #2)", node(api.Let, x, y, z)},
		{"( pi(sort 0)(\nlam #1\t#0 ) )", node(api.Pi, sort(zero), node(api.Lam, y, x))},
		{"(let (sort 0)(const a)(app #0 (const s)))", node(api.Let, sort(zero), constant("a"), node(api.App, x, constant("s")))},
	} {
		if got := parsed(t, c.text); !reflect.DeepEqual(got, c.want) {
			t.Errorf("Parse(%q) = %v, want %v", c.text, got, c.want)
		}
	}
}

// checkFault: Parse tells that fault, and with it the zero Term.
func checkFault(t *testing.T, text string, code, at int) {
	t.Helper()
	made, err := Parse(text)
	gotCode, gotAt := api.Code(err)
	if gotCode != code || gotAt != at {
		t.Errorf("Parse(%.60q): fault %d at %d, want %d at %d", text, gotCode, gotAt, code, at)
	}
	if !reflect.DeepEqual(made, api.Term{}) {
		t.Errorf("Parse(%.60q): with a fault %v", text, made)
	}
}

func TestParseFaults(t *testing.T) {
	long := strings.Repeat("n", 41)
	for _, c := range []struct {
		text string
		at   int
	}{
		{"", 0},
		{" \t\n", 3},
		{"(", 1},
		{"()", 1},
		{")", 0},
		{"#", 0},
		{"#)", 0},
		{"# 1", 0},
		{"#a", 0},
		{"##1", 0},
		{"#-1", 0},
		{"#00", 0},
		{"#01", 0},
		{"#099999", 0},
		{"#100000", 0},
		{"#99999999999999999999999", 0},
		{"#0a", 2},
		{"#0 #1", 3},
		{"#0#1", 2},
		{"(app #0 #)", 8},
		{"(app #01 #)", 5},
		{"(app #0 #100000)", 8},
		{"(lam #0 # 1)", 8},
		{"(sort #0)", 6},
		{"(const #0)", 7},
		{"(const a #)", 9},
		{"0", 0},
		{"u", 0},
		{"sort", 0},
		{"(#0)", 1},
		{"(0)", 1},
		{"((app #0 #1))", 1},
		{"(apply #0 #1)", 1},
		{"(App #0 #1)", 1},
		{"(app0 #1)", 1},
		{"(var 0)", 1},
		{"(s u)", 1},
		{"(max u v)", 1},
		{"(axiom a () #0)", 1},
		{"(sort", 5},
		{"(sort)", 5},
		{"(sort u", 7},
		{"(sort u v)", 8},
		{"(sort 00)", 6},
		{"(sort 1)", 6},
		{"(sort (s u v))", 11},
		{"(sort (sort 0))", 7},
		{"(sort ())", 7},
		{"(const", 6},
		{"(const)", 6},
		{"(const ", 7},
		{"(const 0)", 7},
		{"(const (a))", 7},
		{"(const a", 8},
		{"(const a u ", 11},
		{"(const a ())", 10},
		{"(const a 00)", 9},
		{"(const a (s))", 11},
		{"(const a (app #0 #1))", 10},
		{"(const " + long + ")", 7},
		{"(const a " + long + ")", 9},
		{"(app)", 4},
		{"(app #0)", 7},
		{"(app #0 #1", 10},
		{"(app #0 #1 ", 11},
		{"(app #0 #1 #2)", 11},
		{"(app 0 #1)", 5},
		{"(app u #1)", 5},
		{"(app #0 sort)", 8},
		{"(lam #0)", 7},
		{"(lam #0 #1 #2)", 11},
		{"(lam x #0)", 5},
		{"(pi #0)", 6},
		{"(pi #0 #1 #2)", 10},
		{"(let #0 #1)", 10},
		{"(let #0 #1 #2 #3)", 14},
		{"(lam (sort 0) #0))", 17},
		{"(lam (sort 0) #0) u", 18},
		{"(lam (sort 0), #0)", 13},
		{"(lam\r#0 #0)", 4},
		{"(lam é #0)", 5},
		{"#0\x00", 2},
		{"\xff", 0},
		{"#0 \xff", 3},
	} {
		checkFault(t, c.text, api.FText, c.at)
	}
}

func TestTextsHaveAtMost20000Bytes(t *testing.T) {
	for _, text := range []string{
		strings.Repeat(" ", 19998) + "#0",
		"#0" + strings.Repeat("\n", 19998),
		strings.Repeat("(lam #0 ", 2222) + "#1" + strings.Repeat(")", 2222),
	} {
		if len(text) != 20000 {
			t.Fatalf("the test's text has %d bytes", len(text))
		}
		parsed(t, text)
		checkFault(t, text+" ", api.FLong, 0)
	}
	checkFault(t, strings.Repeat("#", 20001), api.FLong, 0)
	checkFault(t, strings.Repeat("#", 20000), api.FText, 0)
	checkFault(t, "#"+strings.Repeat("9", 19999), api.FText, 0)
	checkFault(t, strings.Repeat(" ", 20000), api.FText, 20000)
	checkFault(t, strings.Repeat("(lam ", 4000), api.FText, 20000)
	checkFault(t, strings.Repeat("(lam #0 ", 2500), api.FText, 20000)
	checkFault(t, "(sort "+strings.Repeat("(s ", 6600), api.FText, 19806)
}

func TestPrint(t *testing.T) {
	for _, c := range []struct{ text, want string }{
		{"#0", "#0"},
		{" #99999 ", "#99999"},
		{"( sort\nu )", "(sort u)"},
		{"(sort(imax u(s 0)))", "(sort (imax u (s 0)))"},
		{"(const\ta)", "(const a)"},
		{"(const a 0u(s v))", "(const a 0 u (s v))"},
		{"(app#0#1)", "(app #0 #1)"},
		{"(pi(sort 0)(lam #1(let #2(const a)(app #0 #1))))", "(pi (sort 0) (lam #1 (let #2 (const a) (app #0 #1))))"},
	} {
		if got := Print(parsed(t, c.text)); got != c.want {
			t.Errorf("%q is printed as %q, want %q", c.text, got, c.want)
		}
	}
	if got := Print(tree.Variable(100000)); got != "#100000" {
		t.Errorf("what no text can say is printed as %q", got)
	}
}

// madeLevel: a level of at most that depth, by chance.
func madeLevel(r *rand.Rand, depth int) api.Level {
	kind := r.Intn(5)
	if depth == 0 {
		kind = api.Param * r.Intn(2)
	}
	l := api.Level{Kind: kind}
	if kind == api.Param {
		l.Name = []string{"u", "v", "w"}[r.Intn(3)]
	}
	for range []int{0, 1, 2, 2, 0}[kind] {
		l.Args = append(l.Args, madeLevel(r, depth-1))
	}
	return l
}

// madeTerm: a term of at most that depth, by chance; its variables are below 6.
func madeTerm(r *rand.Rand, depth int) api.Term {
	kind := r.Intn(7)
	if depth == 0 {
		kind = r.Intn(3)
	}
	made := api.Term{Kind: kind}
	switch kind {
	case api.Var:
		made.N = r.Intn(6)
	case api.Sort:
		made.Levels = []api.Level{madeLevel(r, 2)}
	case api.Const:
		made.Name = []string{"a", "b", "c"}[r.Intn(3)]
		for range r.Intn(3) {
			made.Levels = append(made.Levels, madeLevel(r, 2))
		}
	}
	for range []int{0, 0, 0, 2, 2, 2, 3}[kind] {
		made.Args = append(made.Args, madeTerm(r, depth-1))
	}
	return made
}

func TestWhatIsPrintedIsParsedAgain(t *testing.T) {
	r := rand.New(rand.NewSource(1))
	for range 2000 {
		made := madeTerm(r, 5)
		text := Print(made)
		if again := parsed(t, text); !reflect.DeepEqual(again, made) {
			t.Fatalf("%s is parsed as %s", text, Print(again))
		}
	}
}

func TestClosed(t *testing.T) {
	for _, c := range []struct {
		text string
		n    int // how many it is closed with, at least
	}{
		{"#0", 1},
		{"#5", 6},
		{"(sort u)", 0},
		{"(const a)", 0},
		{"(app #0 #3)", 4},
		{"(app #3 #0)", 4},
		{"(lam (sort 0) #0)", 0},
		{"(lam #0 #0)", 1},
		{"(lam #0 #1)", 1},
		{"(lam #0 #2)", 2},
		{"(pi (sort 0) #0)", 0},
		{"(pi #1 #0)", 2},
		{"(let #0 #0 #1)", 1},
		{"(let #0 #1 #0)", 2},
		{"(let #1 #0 #0)", 2},
		{"(let (sort 0) (sort 0) #0)", 0},
		{"(app (lam (sort 0) #0) #0)", 1},
		{"(lam (sort 0) (pi #0 (let #1 #0 (app #2 (app #1 #0)))))", 0},
		{"(lam (sort 0) (pi #0 (let #1 #0 (app #3 (app #1 #0)))))", 1},
	} {
		made := parsed(t, c.text)
		for n := -2; n < 8; n++ {
			if got, want := Closed(made, n), n >= c.n || c.n == 0; got != want {
				t.Errorf("Closed(%s, %d) = %v", c.text, n, got)
			}
		}
	}
}

func TestHas(t *testing.T) {
	for _, c := range []struct {
		text string
		want bool
	}{
		{"(const a)", true},
		{"(const a b)", true},
		{"(const b)", false},
		{"(const b a)", false},
		{"(const aa)", false},
		{"(sort a)", false},
		{"#0", false},
		{"(app (const a) #0)", true},
		{"(app #0 (const a))", true},
		{"(lam (const a) #0)", true},
		{"(lam #0 (const a u))", true},
		{"(pi (const b) (pi #0 (const a)))", true},
		{"(let (const a) #0 #0)", true},
		{"(let #0 (const a) #0)", true},
		{"(let #0 #0 (const a))", true},
		{"(let (const b) (const c) (const d))", false},
	} {
		if got := Has(parsed(t, c.text), "a"); got != c.want {
			t.Errorf("Has(%s, a) = %v", c.text, got)
		}
	}
	if Has(parsed(t, "(lam #0 #1)"), "") {
		t.Errorf("a term without constants has one without a name")
	}
}

func TestSpineAndApply(t *testing.T) {
	for _, c := range []struct {
		text string
		f    string
		as   []string
	}{
		{"#0", "#0", nil},
		{"(sort u)", "(sort u)", nil},
		{"(lam #0 (app #0 #1))", "(lam #0 (app #0 #1))", nil},
		{"(app #0 #1)", "#0", []string{"#1"}},
		{"(app (const f u) (app #0 #1))", "(const f u)", []string{"(app #0 #1)"}},
		{"(app (app (const f) (app #0 #1)) #2)", "(const f)", []string{"(app #0 #1)", "#2"}},
		{"(app (app (app (lam #0 #1) #2) #3) (sort 0))", "(lam #0 #1)", []string{"#2", "#3", "(sort 0)"}},
	} {
		whole := parsed(t, c.text)
		f, as := Spine(whole)
		if !reflect.DeepEqual(f, parsed(t, c.f)) || !reflect.DeepEqual(as, allParsed(t, c.as...)) {
			t.Errorf("Spine(%s) = %v, %v", c.text, f, as)
		}
		if got := Apply(parsed(t, c.f), allParsed(t, c.as...)); !reflect.DeepEqual(got, whole) {
			t.Errorf("Apply answers %s, want %s", Print(got), c.text)
		}
	}
	if got := Print(Apply(parsed(t, "(app #0 #1)"), allParsed(t, "#2"))); got != "(app (app #0 #1) #2)" {
		t.Errorf("Apply of an application: %s", got)
	}
}

func TestEqual(t *testing.T) {
	for _, c := range []struct {
		a, b string
		want bool
	}{
		{"#1", "#1", true},
		{"#1", "#2", false},
		{"(sort u)", "(sort u)", true},
		{"(sort u)", "(sort v)", false},
		{"(sort u)", "(sort (s u))", false},
		{"(sort (max u v))", "(sort (max v u))", true},
		{"(sort (imax u (s v)))", "(sort (max u (s v)))", true},
		{"(sort (imax u v))", "(sort (max u v))", false},
		{"(sort (imax u 0))", "(sort 0)", true},
		{"(sort (max 0 u))", "(sort u)", true},
		{"(const a)", "(const a)", true},
		{"(const a)", "(const b)", false},
		{"(const a u)", "(const a)", false},
		{"(const a)", "(const a u)", false},
		{"(const a u v)", "(const a v u)", false},
		{"(const a (imax u 0) (s u))", "(const a 0 (s (max u u)))", true},
		{"(const a u 0)", "(const a u v)", false},
		{"(app #0 #1)", "(app #0 #1)", true},
		{"(app #0 #1)", "(app #1 #0)", false},
		{"(app #0 #1)", "(app #0 #2)", false},
		{"(lam #0 #1)", "(pi #0 #1)", false},
		{"(lam #0 #1)", "(app #0 #1)", false},
		{"(lam #0 #1)", "(lam #0 #1)", true},
		{"(pi (sort u) #0)", "(pi (sort (max u 0)) #0)", true},
		{"(let #0 #1 #2)", "(let #0 #1 #2)", true},
		{"(let #0 #1 #2)", "(let #3 #1 #2)", false},
		{"(let #0 #1 #2)", "(let #0 #3 #2)", false},
		{"(let #0 #1 #2)", "(let #0 #1 #3)", false},
		{"(lam (sort 0) (app (const f) #0))", "(const f)", false},
		{"(app (lam (sort 0) #0) (const a))", "(const a)", false},
		{"#0", "(const a)", false},
		{"#0", "(sort 0)", false},
	} {
		a, b := parsed(t, c.a), parsed(t, c.b)
		if Equal(a, b) != c.want || Equal(b, a) != c.want {
			t.Errorf("Equal(%s, %s) is not %v both ways", c.a, c.b, c.want)
		}
	}
}

// chain: a term of that kind whose part i is one again, and so on; the others are leaf.
func chain(kind, parts, i, depth int, leaf api.Term) api.Term {
	made := leaf
	for range depth {
		args := make([]api.Term, parts)
		for j := range args {
			args[j] = leaf
		}
		args[i] = made
		made = node(kind, args...)
	}
	return made
}

// deepTerms have as many parts as the document allows, in each direction of depth, and some in breadth.
func deepTerms() []api.Term {
	var made []api.Term
	for kind, parts := range []int{api.App: 2, api.Lam: 2, api.Pi: 2, api.Let: 3} {
		for i := range parts {
			made = append(made, chain(kind, parts, i, 20000/parts-1, tree.Variable(3)))
		}
	}
	l := u
	for range 19900 {
		l = succ(l)
	}
	full := tree.Variable(1)
	for range 13 {
		full = node(api.Pi, full, full)
	}
	return append(made, sort(l), full)
}

func TestDeepTerms(t *testing.T) {
	params, ls := []string{"u"}, []api.Level{succ(v)}
	for _, made := range deepTerms() {
		text := Print(made)
		if strings.Count(text, "(") != strings.Count(text, ")") {
			t.Errorf("%.60s: brackets", text)
		}
		if _, err := Parse(text); len(text) > 20000 && err == nil {
			t.Errorf("%.60s: too long, and yet parsed", text)
		}
		if !Equal(Lift(Lift(made, 2, 0), -2, 0), made) {
			t.Errorf("%.60s: Lift there and back is another term", text)
		}
		if !Equal(Subst(Lift(made, 1, 0), tree.Variable(0)), made) {
			t.Errorf("%.60s: Subst where nothing is put in makes another term", text)
		}
		f, as := Spine(made)
		if !Equal(Apply(f, as), made) {
			t.Errorf("%.60s: Apply of its Spine is another term", text)
		}
		if Has(made, "a") || !Closed(made, 4) {
			t.Errorf("%.60s: Has, Closed", text)
		}
		changed := Levels(made, params, ls)
		if Equal(changed, made) != (made.Kind != api.Sort) {
			t.Errorf("%.60s: Levels", text)
		}
	}
}

// What no well-formed tree is makes no call panic, either.
func TestTreesThatCannotBe(t *testing.T) {
	for kind := -1; kind < 9; kind++ {
		for parts := range 4 {
			made := api.Term{Kind: kind, N: -1, Args: make([]api.Term, parts), Levels: make([]api.Level, parts)}
			f, as := Spine(made)
			for _, got := range []api.Term{Lift(made, 1, 0), Subst(made, made), Levels(made, []string{"u", "v"}, ls1()), Apply(f, as)} {
				Print(got)
				Equal(got, made)
				Closed(got, 0)
				Has(got, strconv.Itoa(kind))
			}
		}
	}
}

func ls1() []api.Level { return []api.Level{succ(zero)} }
