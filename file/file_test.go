package file

import (
	"reflect"
	"strconv"
	"strings"
	"testing"

	"provekernel/api"
	"provekernel/term"
)

func parsedTerm(t *testing.T, text string) api.Term {
	t.Helper()
	made, err := term.Parse(text)
	if err != nil {
		t.Fatalf("term.Parse(%q): %v", text, err)
	}
	return made
}

func parsed(t *testing.T, text string) []api.Decl {
	t.Helper()
	ds, err := Parse(text)
	if err != nil {
		code, at := api.Code(err)
		t.Fatalf("Parse(%.60q): fault %d at %d", text, code, at)
	}
	return ds
}

func TestParseMakesTrees(t *testing.T) {
	x, y, prop := parsedTerm(t, "#0"), parsedTerm(t, "#1"), parsedTerm(t, "(sort 0)")
	for _, c := range []struct {
		text string
		want []api.Decl
	}{
		{"", nil},
		{" \n\t", nil},
		{"(axiom a () #0)", []api.Decl{{Kind: api.Axiom, Name: "a", Type: x}}},
		{"(axiom a.b' (u v) (sort 0))", []api.Decl{{Kind: api.Axiom, Name: "a.b'", Params: []string{"u", "v"}, Type: prop}}},
		{"(axiom axiom (s max s) #0)", []api.Decl{{Kind: api.Axiom, Name: "axiom", Params: []string{"s", "max", "s"}, Type: x}}},
		{"(def a () #0 #1)", []api.Decl{{Kind: api.Def, Name: "a", Type: x, Value: y}}},
		{"(def def(u)(sort 0)#1)", []api.Decl{{Kind: api.Def, Name: "def", Params: []string{"u"}, Type: prop, Value: y}}},
		{"(inductive a () 0 #0)", []api.Decl{{Kind: api.Inductive, Name: "a", Type: x}}},
		{"(inductive a (u) 7(sort 0))", []api.Decl{{Kind: api.Inductive, Name: "a", Params: []string{"u"}, Arity: 7, Type: prop}}},
		{"(inductive a () 10 #0)", []api.Decl{{Kind: api.Inductive, Name: "a", Arity: 10, Type: x}}},
		{"(inductive a () 99#0)", []api.Decl{{Kind: api.Inductive, Name: "a", Arity: 99, Type: x}}},
		{"(inductive a () 1 #0 (ctor b #1))", []api.Decl{{Kind: api.Inductive, Name: "a", Arity: 1, Type: x, Ctors: []api.Ctor{{Name: "b", Type: y}}}}},
		{"(inductive a () 1 #0(ctor ctor #1)(\nctor c(sort 0)))", []api.Decl{{Kind: api.Inductive, Name: "a", Arity: 1, Type: x, Ctors: []api.Ctor{{Name: "ctor", Type: y}, {Name: "c", Type: prop}}}}},
		{"(axiom a () #0)(def a () #0 #1)\n\n(inductive a () 0 #0 (ctor a #0))\n", []api.Decl{
			{Kind: api.Axiom, Name: "a", Type: x},
			{Kind: api.Def, Name: "a", Type: x, Value: y},
			{Kind: api.Inductive, Name: "a", Type: x, Ctors: []api.Ctor{{Name: "a", Type: x}}},
		}},
	} {
		if got := parsed(t, c.text); !reflect.DeepEqual(got, c.want) {
			t.Errorf("Parse(%q) = %v, want %v", c.text, got, c.want)
		}
	}
}

// checkFault: Parse tells that fault, and with it no declarations.
func checkFault(t *testing.T, text string, code, at int) {
	t.Helper()
	ds, err := Parse(text)
	gotCode, gotAt := api.Code(err)
	if gotCode != code || gotAt != at {
		t.Errorf("Parse(%.60q): fault %d at %d, want %d at %d", text, gotCode, gotAt, code, at)
	}
	if ds != nil {
		t.Errorf("Parse(%.60q): with a fault %v", text, ds)
	}
}

func TestParseFaults(t *testing.T) {
	long := strings.Repeat("n", 41)
	for _, c := range []struct {
		text string
		at   int
	}{
		{"(", 1},
		{"()", 1},
		{")", 0},
		{"axiom", 0},
		{"#0", 0},
		{"0", 0},
		{"(theorem a () #0)", 1},
		{"(Axiom a () #0)", 1},
		{"(app #0 #1)", 1},
		{"((axiom a () #0))", 1},
		{"(axiom", 6},
		{"(axiom)", 6},
		{"(axiom (u) #0)", 7},
		{"(axiom 0 () #0)", 7},
		{"(axiom #0 () #0)", 7},
		{"(axiom " + long + " () #0)", 7},
		{"(axiom a", 8},
		{"(axiom a)", 8},
		{"(axiom a #0)", 9},
		{"(axiom a u #0)", 9},
		{"(axiom a (0) #0)", 10},
		{"(axiom a (u 0) #0)", 12},
		{"(axiom a ((s u)) #0)", 10},
		{"(axiom a (" + long + ") #0)", 10},
		{"(axiom a (u", 11},
		{"(axiom a ()", 11},
		{"(axiom a ())", 11},
		{"(axiom a () u)", 12},
		{"(axiom a () 0)", 12},
		{"(axiom a () 0 #0)", 12},
		{"(axiom a () #01)", 12},
		{"(axiom a () (sort))", 17},
		{"(axiom a () #0", 14},
		{"(axiom a () #0 ", 15},
		{"(axiom a () #0 #1)", 15},
		{"(axiom a () #0))", 15},
		{"(axiom a () #0) axiom", 16},
		{"(axiom a () #0) (", 17},
		{"(axiom a () #0) (axiom a () #0 #1)", 31},
		{"(def a () #0)", 12},
		{"(def a () #0 #1 #2)", 16},
		{"(def a () 0 #0 #1)", 10},
		{"(def a () #0 #1 (ctor b #0))", 16},
		{"(def a () #0 (ctor b #0))", 14},
		{"(inductive a 0 #0)", 13},
		{"(inductive a () #0)", 16},
		{"(inductive a () u #0)", 16},
		{"(inductive a () 00 #0)", 16},
		{"(inductive a () 01 #0)", 16},
		{"(inductive a () 099 #0)", 16},
		{"(inductive a () 100 #0)", 16},
		{"(inductive a () 99999999999999999999999 #0)", 16},
		{"(inductive a () -1 #0)", 16},
		{"(inductive a () #1 #0)", 16},
		{"(inductive a () (1) #0)", 16},
		{"(inductive a () 1a #0)", 17},
		{"(inductive a () 1 2 #0)", 18},
		{"(inductive a () 1)", 17},
		{"(inductive a () 1 #0 #1)", 21},
		{"(inductive a () 1 #0 ctor)", 21},
		{"(inductive a () 1 #0 (b #1))", 22},
		{"(inductive a () 1 #0 ())", 22},
		{"(inductive a () 1 #0 (ctor))", 26},
		{"(inductive a () 1 #0 (ctor #1))", 27},
		{"(inductive a () 1 #0 (ctor b))", 28},
		{"(inductive a () 1 #0 (ctor b () #1))", 30},
		{"(inductive a () 1 #0 (ctor b #1 #2))", 32},
		{"(inductive a () 1 #0 (ctor b #1)", 32},
		{"(inductive a () 1 #0 (ctor b #1) (", 34},
		{"(inductive a () 1 #0 (ctor b #1) (app #0 #1))", 34},
		{"(inductive a () 1 #0 (ctor b #1)) )", 34},
		{"(axiom a, () #0)", 8},
		{"(axiom a () #0)\r\n", 15},
		{"\xff", 0},
	} {
		checkFault(t, c.text, api.FText, c.at)
	}
}

func TestTextsHaveAtMost200000Bytes(t *testing.T) {
	const decl = "(axiom a () #0)"
	full := strings.Repeat(" ", 200000-len(decl)) + decl
	if got := parsed(t, full); len(got) != 1 {
		t.Errorf("a text of just the length has %d declarations", len(got))
	}
	checkFault(t, full+"\n", api.FLong, 0)
	checkFault(t, strings.Repeat("?", 200001), api.FLong, 0)
	checkFault(t, strings.Repeat("?", 200000), api.FText, 0)
	if got := parsed(t, strings.Repeat(" ", 200000)); got != nil {
		t.Errorf("of blanks: %v", got)
	}
	// A term may be longer here than where it stands alone.
	deep := strings.Repeat("(lam #0 ", 22000) + "#0" + strings.Repeat(")", 22000)
	if got := PrintAll(parsed(t, "(axiom a () "+deep+")")); got != "(axiom a () "+deep+")\n" {
		t.Errorf("a deep term is printed as %.60q", got)
	}
	checkFault(t, "(axiom a () "+strings.Repeat("(lam #0 ", 22000), api.FText, 12+8*22000)
	many := strings.Repeat(decl+"\n", 200000/16)
	if got := PrintAll(parsed(t, many)); got != many {
		t.Errorf("many declarations are printed as %.60q", got)
	}
}

func TestPrint(t *testing.T) {
	for _, c := range []struct{ text, want string }{
		{"( axiom a( ) #0 )", "(axiom a () #0)"},
		{"(axiom a ( u  v )\n(sort(max u v)))", "(axiom a (u v) (sort (max u v)))"},
		{"(def a(u)(sort u)(const b u))", "(def a (u) (sort u) (const b u))"},
		{"(inductive a () 0 #0)", "(inductive a () 0 #0)"},
		{"(inductive\na (u) 12(pi (sort u)#0))", "(inductive a (u) 12 (pi (sort u) #0))"},
		{"(inductive a () 9 #0(ctor b #1)(ctor c(lam #0 #1)))", "(inductive a () 9 #0 (ctor b #1) (ctor c (lam #0 #1)))"},
	} {
		ds := parsed(t, c.text)
		if got := Print(ds[0]); got != c.want {
			t.Errorf("%q is printed as %q, want %q", c.text, got, c.want)
		}
		if again := parsed(t, c.want); !reflect.DeepEqual(again, ds) {
			t.Errorf("%q is parsed as %v", c.want, again)
		}
	}
}

func TestArities(t *testing.T) {
	for n := range 100 {
		text := "(inductive a () " + strconv.Itoa(n) + " #0)"
		ds := parsed(t, text)
		if ds[0].Arity != n || Print(ds[0]) != text {
			t.Errorf("%q: %d, printed as %q", text, ds[0].Arity, Print(ds[0]))
		}
	}
}

func TestPrintAll(t *testing.T) {
	for _, c := range []struct{ text, want string }{
		{"", ""},
		{"(axiom a () #0)", "(axiom a () #0)\n"},
		{"(axiom a () #0)(def b () #0 #1)", "(axiom a () #0)\n(def b () #0 #1)\n"},
		{"\n(inductive a () 0 #0 (ctor b #0))  (axiom a () #0)\n\n(axiom a () #0)", "(inductive a () 0 #0 (ctor b #0))\n(axiom a () #0)\n(axiom a () #0)\n"},
	} {
		ds := parsed(t, c.text)
		got := PrintAll(ds)
		if got != c.want {
			t.Errorf("%q is printed as %q, want %q", c.text, got, c.want)
		}
		if again := parsed(t, got); !reflect.DeepEqual(again, ds) {
			t.Errorf("%q is parsed as %v", got, again)
		}
	}
}

// What is printed is only read: the lists of a declaration stay as they were.
func TestPrintChangesNothing(t *testing.T) {
	const text = "(inductive a (u v) 3 #0 (ctor b #1) (ctor c #2))"
	ds, same := parsed(t, text), parsed(t, text)
	Print(ds[0])
	PrintAll(ds)
	if !reflect.DeepEqual(ds, same) {
		t.Errorf("changed to %v", ds)
	}
}

// What no well-formed declaration is makes no call panic, either.
func TestDeclarationsThatCannotBe(t *testing.T) {
	for kind := -1; kind < 6; kind++ {
		d := api.Decl{Kind: kind, Arity: -3, Ctors: []api.Ctor{{}}}
		if got := PrintAll([]api.Decl{d}); got != Print(d)+"\n" {
			t.Errorf("kind %d: %q", kind, got)
		}
	}
}
