package kernel

import (
	"strconv"
	"strings"
	"testing"

	"provekernel/api"
	"provekernel/file"
	"provekernel/reduce"
)

// reads: what File says of a text, and the environment. With a fault of the text there must be nothing else; else an environment
// with as many declarations as were added, which are the text's first.
func reads(t testing.TB, text string, fuel int) (*reduce.Env, int, string) {
	t.Helper()
	ds, fault := file.Parse(text)
	e, n, err := File(text, fuel)
	if fault != nil {
		if e != nil || n != 0 || said(err) != said(fault) {
			t.Errorf("File(%.200q): %s, with %d declarations and an environment: %v; want %s", text, said(err), n, e != nil, said(fault))
		}
		return e, n, said(err)
	}
	if e == nil {
		t.Fatalf("File(%.200q): %s, without an environment", text, said(err))
	}
	if _, at := api.Code(err); n < 0 || n > len(ds) || err == nil && n != len(ds) || err != nil && (n == len(ds) || at != n) {
		t.Fatalf("File(%.200q): %d of %d declarations were added, and %s is told", text, n, len(ds), said(err))
	}
	want := file.PrintAll(ds[:n])
	if got := file.PrintAll(e.Decls()); got != want {
		t.Errorf("File(%.200q) adds\n%.400s\nwant\n%.400s", text, got, want)
	}
	if got := Export(e); got != want {
		t.Errorf("Export is\n%.400s\nwant\n%.400s", got, want)
	}
	return e, n, said(err)
}

// fileCase: a text, how many declarations are added, what is said.
type fileCase struct {
	text string
	n    int
	want string
}

func readsAll(t *testing.T, fuel int, cases []fileCase) {
	t.Helper()
	for _, c := range cases {
		if _, n, got := reads(t, c.text, fuel); n != c.n || got != c.want {
			t.Errorf("File(%.200q), fuel %d: %d added, %s; want %d, %s", c.text, fuel, n, got, c.n, c.want)
		}
	}
}

func TestFileWithoutDeclarations(t *testing.T) {
	for _, text := range []string{"", " ", "\n", " \t\n \n"} {
		for _, fuel := range []int{0, 100000} {
			e, n, got := reads(t, text, fuel)
			if n != 0 || got != right || seen(e, "Nat", "") != seen(reduce.New(), "Nat", "") {
				t.Errorf("File(%q): %d, %s", text, n, got)
			}
		}
	}
}

func TestFileOfTheBase(t *testing.T) {
	e, n, got := reads(t, baseText(), 1000)
	if want := strings.Count(baseText(), "\n"); n != want || got != right {
		t.Errorf("%d declarations of %d, %s", n, want, got)
	}
	if got, want := seen(e), seen(world(t)); got != want {
		t.Errorf("there is\n%s\nwant\n%s", got, want)
	}
	isRightWithin(t, e)
}

// How a text is laid out says nothing.
func TestFileOfOtherLayouts(t *testing.T) {
	want := seen(world(t))
	for _, text := range []string{
		strings.ReplaceAll(baseText(), "\n", ""),
		strings.ReplaceAll(baseText(), " ", "\n\t "),
		" \n" + strings.ReplaceAll(strings.ReplaceAll(baseText(), "(", " ( "), ")", " ) "),
		strings.ReplaceAll(strings.ReplaceAll(baseText(), ") (", ")("), " #", "#"),
	} {
		e, _, got := reads(t, text, 1000)
		if got != right || seen(e) != want {
			t.Errorf("File(%.80q): %s, or another environment", text, got)
		}
		if Export(e) != baseText() {
			t.Errorf("Export of %.80q is %s", text, Export(e))
		}
	}
}

// wrongs: a declaration for each fault that is none of the text, where Nat and P are known and there is no fuel.
var wrongs = []addCase{
	{"(axiom Nat () (sort 0))", "FTwice"}, {"(axiom a () (const none))", "FName"}, {"(axiom a (u u) (sort u))", "FParam"}, {"(axiom a () (const Nat 0))", "FLevels"},
	{"(axiom a () #0)", "FVar"}, {"(axiom a () (app (const zero) (const zero)))", "FFun"}, {"(def a () (const Nat) (const succ))", "FArg"}, {"(axiom a () (const zero))", "FSort"},
	{"(inductive A () 0 (const Nat))", "FForm"}, {"(inductive A () 0 (sort (s 0)) (ctor a (pi (pi (const A) (const A)) (const A))))", "FPos"},
	{"(inductive A () 0 (sort (s 0)) (ctor a (pi (sort (s 0)) (const A))))", "FLevel"},
	{"(axiom a () (app (const P) (let (const Nat) (const zero) (app (app (app (app (const Nat.rec (s 0)) (lam (const Nat) (let (sort (s (s 0))) (sort (s 0)) (const Nat)))) (const zero)) (lam (const Nat) (lam (const Nat) #0))) #0))))", "FTired"},
}

// ordinary declarations, that are right with each other and with little fuel.
const ordinary = `(inductive Nat () 0 (sort (s 0)) (ctor zero (const Nat)) (ctor succ (pi (const Nat) (const Nat))))
(axiom P () (pi (const Nat) (sort 0)))
(def one () (const Nat) (app (const succ) (const zero)))
(axiom n () (const Nat))
`

// Each fault, behind the first declarations, in the middle and at the end: what stands ahead is added, and nothing behind.
func TestFileWithOneThatIsNotRight(t *testing.T) {
	lines := strings.SplitAfter(ordinary, "\n")[:4]
	for _, c := range wrongs {
		for at := 2; at <= len(lines); at++ {
			text := strings.Join(lines[:at], "") + c.text + strings.Join(lines[at:], "") + "(axiom last () (const Nat))"
			e, n, got := reads(t, text, 0)
			if want := c.want + " at " + strconv.Itoa(at); n != at || got != want {
				t.Errorf("%s, as number %d: %d added, %s", c.text, at, n, got)
			}
			ahead, _, _ := reads(t, strings.Join(lines[:at], ""), 0)
			if more := []string{"a", "A", "A.rec", "n", "one", "last", "Nat.rec"}; seen(e, more...) != seen(ahead, more...) {
				t.Errorf("%s, as number %d: there is\n%s\nwant\n%s", c.text, at, seen(e, more...), seen(ahead, more...))
			}
		}
	}
}

func TestFileWhoseFirstIsNotRight(t *testing.T) {
	readsAll(t, 1000, []fileCase{
		{"(axiom a () #0)", 0, "FVar at 0"},
		{"(axiom a () (const a))" + baseText(), 0, "FName at 0"},
		{"(axiom a () (sort u))" + ordinary, 0, "FParam at 0"},
		{"(inductive A () 1 (sort 0))" + ordinary, 0, "FForm at 0"},
		{"(def a () (sort 0) (sort 0))" + ordinary, 0, "FArg at 0"},
		{"(def a () (sort (s 0)) (app (sort 0) (sort 0)))", 0, "FFun at 0"},
	})
}

// Each declaration knows those ahead of it, and none else.
func TestOrderOfTheText(t *testing.T) {
	readsAll(t, 1000, []fileCase{
		{"(axiom a () (sort 0)) (axiom b () (const a))", 2, right},
		{"(axiom b () (const a)) (axiom a () (sort 0))", 0, "FName at 0"},
		{"(axiom a () (sort 0)) (axiom a () (sort 0))", 1, "FTwice at 1"},
		{"(axiom a () (sort 0)) (axiom c () (const b)) (axiom b () (const a))", 1, "FName at 1"},
		{"(inductive A () 0 (sort (s 0)) (ctor a (const A))) (def b () (const A) (const a)) (axiom a () (const A)) (axiom A () #0)", 2, "FTwice at 2"},
		{"(axiom A.rec () (sort 0)) (inductive A () 0 (sort 0))", 1, "FTwice at 1"},
		{"(inductive A () 0 (sort 0)) (axiom A.rec () (sort 0))", 1, "FTwice at 1"},
		{"(axiom a (u) (sort u)) (axiom b () (const a (s 0))) (axiom c (u) (const a (s u))) (axiom d (u) (const a v))", 3, "FParam at 3"},
		{"(axiom a () (sort 0)) (axiom b () (const a)) (axiom c () (const b))", 2, "FSort at 2"},
		{ordinary + baseText(), 4, "FTwice at 4"},
	})
}

// A fault of the text is told ahead of all others, with its place, and nothing is added.
func TestFaultsOfTheText(t *testing.T) {
	base := baseText()
	readsAll(t, 1000, []fileCase{
		{")", 0, "FText at 0"},
		{"(", 0, "FText at 1"},
		{"  axiom", 0, "FText at 2"},
		{"(axiom a () (sort 0)", 0, "FText at 20"},
		{"(axiom a () (sort 0)))", 0, "FText at 21"},
		{"(axiom a () (sort 1))", 0, "FText at 18"},
		{"(axiom a () #100000)", 0, "FText at 12"},
		{"(inductive A () 100 (sort 0))", 0, "FText at 16"},
		{"(axiom " + strings.Repeat("a", 41) + " () (sort 0))", 0, "FText at 7"},
		{"(axiom a () #0) (axiom a () (const none)) (axiom b", 0, "FText at 50"},
		{"(axiom a () #0)\xff", 0, "FText at 15"},
		{base + ")", 0, "FText at " + strconv.Itoa(len(base))},
		{base + " \n(theorem a () (sort 0))", 0, "FText at " + strconv.Itoa(len(base)+3)},
		{base + base + "#0", 0, "FText at " + strconv.Itoa(2*len(base))},
	})
}

// A text of 200000 bytes is read, one of more is not, whatever stands in it.
func TestLengthOfTheText(t *testing.T) {
	padded := func(text string, n int) string { return text + strings.Repeat(" ", n-len(text)) }
	readsAll(t, 1000, []fileCase{
		{padded(ordinary, 200000), 4, right},
		{padded(ordinary, 200001), 0, "FLong at 0"},
		{padded(ordinary+"(axiom a () #0)", 200000), 4, "FVar at 4"},
		{padded(ordinary+"(axiom a () #0)", 200001), 0, "FLong at 0"},
		{padded(")", 200000), 0, "FText at 0"},
		{padded(")", 200001), 0, "FLong at 0"},
		{padded("", 200000), 0, right},
		{padded("", 1000000), 0, "FLong at 0"},
	})
}

// All parts of a text, from its beginning on: most are none, in those that are the declarations are added that stand there.
func TestBeginningsOfAText(t *testing.T) {
	text := ordinary + "(inductive Eq (u) 2 (pi (sort u) (pi #0 (pi #1 (sort 0)))) (ctor refl (pi (sort u) (pi #0 (app (app (app (const Eq u) #1) #0) #0)))))\n(axiom n () (const Nat))"
	counts := map[string]int{}
	for n := range len(text) + 1 {
		_, _, got := reads(t, text[:n], 0)
		counts[strings.Fields(got)[0]]++
	}
	if counts[right] != 11 || counts["FTwice"] != 1 || counts["FText"] != len(text)+1-12 {
		t.Errorf("%v, of %d", counts, len(text)+1)
	}
}

// The fuel is each declaration's own: what one takes another does not lack.
func TestFuelOfAFile(t *testing.T) {
	const steps = `(axiom A () (sort (s 0)))
(def T0 () (sort (s (s 0))) (sort (s 0)))
(def T1 () (sort (s (s 0))) (const T0))
(def T2 () (sort (s (s 0))) (const T1))
(axiom B () (const T0))
(axiom C () (const T1))
(axiom D () (const T2))
(axiom a () (const A))
(axiom b () (const B))
(axiom c () (const C))
(axiom d () (const D))
(axiom e () (const D))
(inductive I () 0 (sort (s 0)) (ctor i (pi (const D) (pi (const C) (const I)))))
(axiom none () (const none))
`
	readsAll(t, 0, []fileCase{{steps, 8, "FTired at 8"}})
	readsAll(t, 1, []fileCase{{steps, 9, "FTired at 9"}})
	readsAll(t, 2, []fileCase{{steps, 10, "FTired at 10"}})
	for _, fuel := range []int{3, 4, 1000, 100000} {
		readsAll(t, fuel, []fileCase{{steps, 13, "FName at 13"}})
	}
	readsAll(t, 0, []fileCase{{")", 0, "FText at 0"}, {ordinary, 4, right}})
}

// Export tells each kind of declaration, in the order in which they were added, each on a line of its own; it looks at nothing.
func TestExport(t *testing.T) {
	if got := Export(reduce.New()); got != "" {
		t.Errorf("of nothing: %q", got)
	}
	for _, text := range append(strings.SplitAfter(baseText(), "\n"), baseText(), ordinary,
		"(axiom a () #7)\n", "(def a (u v) (sort w) (const none (max u (imax v 0))))\n(axiom a () (const a))\n", "(inductive A (u u) 99 #0 (ctor A (const A)) (ctor A.rec (let #0 #1 #2)))\n",
	) {
		e := reduce.New()
		for _, d := range declared(t, text) {
			e.Put(d, []string{"r"}, parsed(t, "(sort 0)"))
		}
		before := seen(e)
		for range 2 {
			if got := Export(e); got != text {
				t.Errorf("Export is %q, want %q", got, text)
			}
		}
		if seen(e) != before {
			t.Errorf("Export changes what there is")
		}
	}
}

// What was added one by one is told as one text, and File of that text has the same to show.
func TestExportOfWhatWasAdded(t *testing.T) {
	e := reduce.New()
	for _, d := range declared(t, baseText()) {
		if got := adds(t, e, d, 1000); got != right {
			t.Fatalf("Add(%s): %s", file.Print(d), got)
		}
		again, n, got := reads(t, Export(e), 1000)
		if n != len(e.Decls()) || got != right || seen(again) != seen(e) {
			t.Errorf("up to %s: %d added, %s, or another environment", d.Name, n, got)
		}
	}
	if Export(e) != baseText() {
		t.Errorf("Export is %s", Export(e))
	}
}

// The document's examples.
func TestExamples(t *testing.T) {
	const nat = "(inductive Nat () 0 (sort (s 0)) (ctor zero (const Nat)) (ctor succ (pi (const Nat) (const Nat))))"
	readsAll(t, 1000, []fileCase{
		{"(axiom a () (sort 0)) (axiom a () (sort (s 0)))", 1, "FTwice at 1"},
		{nat + "(def f () (const Nat) (app (const succ) (const succ)))", 1, "FArg at 1"},
		{nat + "(inductive A () 0 (sort (s 0)) (ctor a (pi (pi (const A) (const Nat)) (const A))))", 1, "FPos at 1"},
	})
	e, n, got := reads(t, nat+"(inductive A () 0 (sort (s 0)) (ctor a (pi (pi (const Nat) (const A)) (const A))))", 1000)
	const want = "r: (pi (pi (const A) (sort r)) (pi (pi (pi (const Nat) (const A)) (pi (pi (const Nat) (app #2 (app #1 #0))) (app #2 (app (const a) #1)))) (pi (const A) (app #2 #0))))"
	if n != 2 || got != right || recursorText(e, "A.rec") != want {
		t.Errorf("%d added, %s, A.rec is known as %s", n, got, recursorText(e, "A.rec"))
	}
}
