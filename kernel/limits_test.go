package kernel

import (
	"math"
	"math/rand"
	"strconv"
	"strings"
	"testing"

	"provekernel/api"
	"provekernel/reduce"
)

// fuels from none to the most that there is.
var fuels = [...]int{0, 1, 7, 1000, 100000}

// repeated is a text around another, so many times: what opens it, the inside, what closes it.
func repeated(n int, open, inner, end string) string {
	return strings.Repeat(open, n) + inner + strings.Repeat(end, n)
}

// counted are the texts that one makes of the numbers from 0 on, one behind the other.
func counted(n int, one func(i string) string) string {
	var b strings.Builder
	for i := range n {
		b.WriteString(one(strconv.Itoa(i)))
	}
	return b.String()
}

// variables are n of them, from the outermost on.
func variables(n int) []string {
	var vs []string
	for i := range n {
		vs = append(vs, "#"+strconv.Itoa(n-1-i))
	}
	return vs
}

// Any text: no call panics, and every call ends.
func TestAnyText(t *testing.T) {
	r := rand.New(rand.NewSource(1))
	tokens := []string{"(", "(", "(", ")", ")", ")", "axiom", "def", "inductive", "ctor", "(sort 0)", "(sort (s 0))", "(const a)", "()", "(u)", "#0", "#1", "0", "7", "a", "b", "app", "lam", "pi", "let", "sort", "const", "s", "max", "imax", "u", "(axiom", "(def", "#", "\xff", "é", "00"}
	for range 4000 {
		var b strings.Builder
		for range r.Intn(30) {
			b.WriteString(tokens[r.Intn(len(tokens))])
			b.WriteString([]string{"", " ", " ", "\n"}[r.Intn(4)])
		}
		reads(t, b.String(), fuels[r.Intn(len(fuels))])
		bytes := make([]byte, r.Intn(40))
		for i := range bytes {
			bytes[i] = byte(r.Intn(256))
		}
		reads(t, string(bytes), 10)
		reads(t, ordinary+string(bytes), 10)
	}
}

// Texts as long as they may be, of one thing over and over, cut off where the length ends.
func TestLongTexts(t *testing.T) {
	for _, c := range []struct{ ahead, over string }{
		{"", "("}, {"", ")"}, {"", "#0 "}, {"", "a"}, {"", "a "}, {"", "0"}, {"", "(axiom "}, {"", "(axiom a () "}, {"", "(axiom a () (sort 0))"},
		{"(axiom a () ", "(app "}, {"(axiom a () ", "(pi "}, {"(axiom a () ", "(let "}, {"(axiom a () ", "(lam #0 "}, {"(axiom a () ", "(app #0 "}, {"(axiom a () (sort ", "(s "}, {"(axiom a () (sort ", "(max "},
		{"(axiom a (", "u "}, {"(axiom a () (const a ", "0 "}, {"(inductive A () 0 (sort 0) ", "(ctor a (const A))"}, {"(inductive A () 0 (sort 0) ", "(ctor a "}, {"(def a () (sort 0) ", "(const a) "}, {"(axiom a () #", "0"}, {"(axiom a () #", "1"},
	} {
		text := c.ahead + strings.Repeat(c.over, 200000)
		for _, fuel := range []int{0, 100000} {
			reads(t, text[:200000], fuel)
			reads(t, text[:100000]+strings.Repeat(")", 100000), fuel)
			reads(t, text, fuel)
		}
	}
}

const (
	natText  = "(inductive Nat () 0 (sort (s 0)) (ctor zero (const Nat)) (ctor succ (pi (const Nat) (const Nat))))"
	setText  = "(sort (s 0))"
	itself   = "(const A)"
	deepType = "(pi (const Nat) "
)

// largeTexts: declarations about as large and as deep as the document allows, behind Nat; what is said of each with any fuel.
func largeTexts() map[string]fileCase {
	level := repeated(250, "(s ", "0", ")")
	mixed := "z"
	for i := range 70 {
		mixed = "(" + []string{"max", "imax"}[i%2] + " " + string("uvwxyz"[i%6]) + " (s " + mixed + "))"
	}
	const six = "u v w x y z"
	return map[string]fileCase{
		"a great number":               {"(def a () (const Nat) " + repeated(9900, "(app (const succ) ", "(const zero)", ")") + ")", 2, right},
		"a great number, wrong inside": {"(def a () (const Nat) " + repeated(9900, "(app (const succ) ", "(const succ)", ")") + ")", 1, "FArg at 1"},
		"many products":                {"(axiom a () " + repeated(4900, deepType, "(const Nat)", ")") + ")", 2, right},
		"products in products":         {"(axiom a () " + repeated(4900, "(pi ", "(const Nat)", " (const Nat))") + ")", 2, right},
		"products, wrong inside":       {"(axiom a () " + repeated(4900, "(pi ", "(const zero)", " (const Nat))") + ")", 1, "FSort at 1"},
		"many functions":               {"(def a () " + repeated(4900, deepType, "(const Nat)", ")") + " " + repeated(4900, "(lam (const Nat) ", "#4899", ")") + ")", 2, right},
		"many functions, one too few":  {"(def a () " + repeated(4900, deepType, "(const Nat)", ")") + " " + repeated(4899, "(lam (const Nat) ", "#4898", ")") + ")", 1, "FArg at 1"},
		"a far variable":               {"(def a () " + repeated(4900, deepType, "(const Nat)", ")") + " " + repeated(4900, "(lam (const Nat) ", "#4900", ")") + ")", 1, "FVar at 1"},
		"many lets":                    {"(def a () (const Nat) " + repeated(4900, "(let (const Nat) (const zero) ", "#0", ")") + ")", 2, right},
		"lets in values":               {"(def a () (const Nat) " + repeated(4900, "(let (const Nat) ", "(const zero)", " #0)") + ")", 2, right},
		"many arguments":               {"(axiom f () " + repeated(3000, deepType, "(const Nat)", ")") + ")(def a () (const Nat) " + app("(const f)", strings.Fields(strings.Repeat("(const_zero) ", 3000))...) + ")", 3, right},
		"one argument too many":        {"(axiom f () " + repeated(3000, deepType, "(const Nat)", ")") + ")(def a () (const Nat) " + app("(const f)", strings.Fields(strings.Repeat("(const_zero) ", 3001))...) + ")", 2, "FFun at 2"},
		"a deep level":                 {"(axiom a () (sort " + level + "))(def b () (sort (s " + level + ")) (sort " + level + "))(inductive A () 0 (sort " + level + ") (ctor c (pi (const Nat) (const A))))", 4, right},
		"levels with six parameters":   {"(def a (" + six + ") (sort (max (s " + mixed + ") 0)) (sort " + mixed + "))(inductive A (" + six + ") 0 (sort (max (s 0) " + mixed + ")) (ctor c (pi (const Nat) (const A " + six + "))))", 3, right},
		"many constructors":            {"(inductive A () 0 (sort (s 0))" + counted(4500, func(i string) string { return " (ctor c" + i + " (const A))" }) + ")", 2, right},
		"many constructors, one twice": {"(inductive A () 0 (sort (s 0))" + counted(4500, func(i string) string { return " (ctor c" + i + " (const A))" }) + " (ctor c4499 (const A)))", 1, "FTwice at 1"},
		"recursive arguments":          {"(inductive A () 0 (sort (s 0)) (ctor c " + repeated(2400, "(pi (const A) ", itself, ")") + "))", 2, right},
		"recursive arguments, one bad": {"(inductive A () 0 (sort (s 0)) (ctor c " + repeated(2400, "(pi (const A) ", "(pi (pi (const A) (const A)) (const A))", ")") + "))", 1, "FPos at 1"},
		"a great argument at last":     {"(inductive A () 0 (sort (s 0)) (ctor c " + repeated(4000, deepType, "(pi (sort (s 0)) (const A))", ")") + "))", 1, "FLevel at 1"},
		"99 parameters":                {"(inductive A () 99 " + repeated(99, deepType, setText, ")") + " (ctor c " + repeated(99, deepType, app(itself, variables(99)...), ")") + "))", 2, right},
		"99 parameters, two swapped":   {"(inductive A () 99 " + repeated(99, deepType, setText, ")") + " (ctor c " + repeated(99, deepType, app(itself, append(variables(99)[:97], "#0", "#1")...), ")") + "))", 1, "FForm at 1"},
		"many indices":                 {"(inductive A () 0 " + repeated(1500, deepType, setText, ")") + " (ctor c " + repeated(1500, deepType, app(itself, variables(1500)...), ")") + "))", 2, right},
		"many axioms":                  {counted(7000, func(i string) string { return "(axiom a" + i + " () (const Nat))" }), 7001, right},
		"many definitions": {"(def a0 () (const Nat) (const zero))" + counted(4000, func(i string) string {
			n, _ := strconv.Atoi(i)
			return "(def a" + strconv.Itoa(n+1) + " () (const Nat) (const a" + i + "))"
		}), 4002, right},
		"many families": {counted(1500, func(i string) string {
			return "(inductive A" + i + " () 0 (sort (s 0)) (ctor a" + i + " (const A" + i + ")) (ctor b" + i + " (pi (const A" + i + ") (const A" + i + "))))"
		}), 1501, right},
		"many families, the last known": {counted(1500, func(i string) string {
			return "(inductive A" + i + " () 0 (sort (s 0)) (ctor a" + i + " (const A" + i + ")))"
		}) + "(inductive A () 0 (sort 0) (ctor a1499 (const A)))", 1501, "FTwice at 1501"},
	}
}

// Large declarations, of any fuel: they are right without a step, or wrong. What is right is told, and read again.
func TestLargeTexts(t *testing.T) {
	for what, c := range largeTexts() {
		text := natText + strings.ReplaceAll(c.text, "_", " ")
		if len(text) > 200000 {
			t.Errorf("%s: %d bytes", what, len(text))
		}
		for _, fuel := range []int{0, 100000} {
			e, n, got := reads(t, text, fuel)
			if n != c.n || got != c.want {
				t.Errorf("%s, fuel %d: %d added, %s; want %d, %s", what, fuel, n, got, c.n, c.want)
			}
			if again, n, err := File(Export(e), fuel); len(Export(e)) <= 200000 && (n != c.n || err != nil || Export(again) != Export(e)) {
				t.Errorf("%s, fuel %d: of its export %d added, %s", what, fuel, n, said(err))
			}
		}
	}
}

// Texts that would have terms formed of far more parts than the document allows, or ask for more steps: every call ends.
func TestTextsThatGrow(t *testing.T) {
	add := strings.SplitAfter(others, "\n")[0]
	doubled := func(typ, value string) string {
		return counted(100, func(i string) string {
			n, _ := strconv.Atoi(i)
			return "(def d" + strconv.Itoa(n+1) + " () " + typ + " " + strings.ReplaceAll(value, "IT", "(const d"+i+")") + ")"
		})
	}
	for what, text := range map[string]string{
		"numbers that double":      natText + add + "(def d0 () (const Nat) (app (const succ) (const zero)))" + doubled("(const Nat)", "(app (app (const add) IT) IT)") + "(axiom P () (pi (const Nat) (sort 0)))(axiom p () (pi (const Nat) (app (const P) #0)))(def x () (app (const P) (const d100)) (app (const p) (const d99)))",
		"types that double":        "(def d0 () (sort (s 0)) (sort 0))" + doubled("(sort (s 0))", "(pi IT IT)") + "(axiom x () (pi (const d100) (const d99)))",
		"propositions that double": "(axiom Q () (sort 0))(def d0 () (sort 0) (const Q))" + doubled("(sort 0)", "(pi IT IT)") + "(axiom x () (const d100))(def y () (const d99) (const x))",
		"lets that double":         natText + add + "(axiom P () (pi (const Nat) (sort 0)))(axiom p () (pi (const Nat) (app (const P) #0)))(def x () (const Nat) " + "(let (const Nat) (const zero) " + repeated(100, "(let (const Nat) (app (app (const add) #0) #0) ", "(app (const p) #0)", ")") + "))",
		"levels that double": "(def d0 (u) (sort (s u)) (sort u))" + counted(100, func(i string) string {
			n, _ := strconv.Atoi(i)
			return "(def e" + i + " (u) (sort (s u)) (const d" + strconv.Itoa(n) + " (max u u)))(def d" + strconv.Itoa(n+1) + " (u) (sort (s u)) (const e" + i + " (max u u)))"
		}),
		"a recursor that is larger": natText + "(inductive A () 0 (sort (s 0)) (ctor c " + repeated(11000, "(pi (const A) ", itself, ")") + "))",
		"very many products":        "(axiom a () " + repeated(14000, "(pi (sort 0) ", "(sort 0)", ")") + ")(def b () (sort (s 0)) (const a))",
		"a level of very many":      "(axiom a () (sort " + repeated(49000, "(s ", "0", ")") + "))",
		"a family of such a level":  "(inductive a () 0 (sort " + repeated(49000, "(s ", "0", ")") + ") (ctor b (const a)))",
	} {
		if len(text) > 200000 {
			t.Errorf("%s: %d bytes", what, len(text))
		}
		for _, fuel := range fuels {
			reads(t, text, fuel)
		}
	}
}

// As trees, too: one part that stands in many places, so that there are more than could ever be gone through.
func TestTreesWithoutNumber(t *testing.T) {
	pairs := parsed(t, "(const Nat)")
	for range 80 {
		pairs = api.Term{Kind: api.Pi, Args: []api.Term{pairs, pairs}}
	}
	set := parsed(t, setText)
	e := world(t)
	before := seen(e)
	for _, d := range []api.Decl{
		{Kind: api.Axiom, Name: "a", Type: pairs},
		{Kind: api.Def, Name: "a", Type: parsed(t, "(const Nat)"), Value: pairs},
		{Kind: api.Def, Name: "a", Type: pairs, Value: pairs},
		{Kind: api.Inductive, Name: "A", Type: pairs},
		{Kind: api.Inductive, Name: "A", Type: set, Ctors: []api.Ctor{{Name: "a", Type: pairs}}},
		{Kind: api.Inductive, Name: "A", Type: set, Ctors: []api.Ctor{{Name: "a", Type: parsed(t, itself)}, {Name: "b", Type: api.Term{Kind: api.Pi, Args: []api.Term{pairs, parsed(t, itself)}}}}},
	} {
		for _, fuel := range fuels {
			if got := said(Add(e, d, fuel)); got != "FTired at 0" {
				t.Errorf("Add of kind %d: %s", d.Kind, got)
			}
		}
	}
	if seen(e) != before {
		t.Errorf("something was added")
	}
}

// held: what an environment may hold that was filled without a look.
var held = []string{
	"", "(axiom x () #3)", "(axiom x (u u) (pi (sort u) (sort v)))", "(axiom x () (pi #0 (pi #1 #7)))", "(def x () (const y) (const z))", "(def x () (const x) (const x))",
	"(def x () (sort 0) (lam (const x) (app #0 #5)))", "(def x () (sort (s 0)) (pi (const x) (const x)))", "(def x () (pi (sort 0) (sort 0)) (lam (const x) (app (const x) (app (const x) #0))))",
	"(inductive x () 3 (const x) (ctor c (const c)) (ctor d #5))", "(inductive x () 0 (sort (s 0)) (ctor d (const A)))", "(inductive x (u) 1 (pi (sort u) (sort 0)) (ctor d (pi (sort u) (pi (app (const x u) #0) (app (const x) #7)))))",
	"(def x (u) (sort u) (const x (s u)))", "(def x (u) (const x (max u u)) (const x (max u u)))", "(def x.rec () (const x) (const x.rec)) (axiom x () (const x.rec))",
	"(axiom x () (sort " + manyParams(60) + "))", "(def x () (sort " + manyParams(60) + ") (sort " + manyParams(61) + "))", "(axiom x () (pi (sort 0) (sort " + manyParams(60) + ")))",
}

// manyParams is the text of a level that is always worth 0, with that many parameters, each of which might decide that.
func manyParams(n int) string {
	l := "0"
	for i := range n {
		l = "(imax p" + strconv.Itoa(i) + " " + l + ")"
	}
	return l
}

// asked: declarations that use x, right ones and wrong ones.
var asked = []string{
	"(axiom a () (const x))", "(axiom a () (const x 0))", "(axiom a (u) (const x u))", "(axiom a () (pi (const x) (const x)))", "(axiom a () (app (const x) (sort 0)))", "(axiom a () (app (const x) (const x)))", "(axiom x () (sort 0))",
	"(def a () (const x) (const x))", "(def a () (sort 0) (const x))", "(def a () (sort (s (s 0))) (const x))", "(def a () (sort (s " + manyParams(5) + ")) (const x))", "(def a (u) (sort u) (const x u))", "(def a () (pi (const x) (const x)) (lam (const x) (app #0 (const x))))",
	"(def a () (sort 0) (app (const x.rec) (const d)))", "(def a () (const x) (app (app (app (app (const x.rec 0) (const x)) (const d)) (const c)) (app (const d) (const c))))", "(def a () (sort 0) (let (const x) (const x) #0))", "(axiom d () (const c))",
	"(inductive A () 0 (const x))", "(inductive A () 0 (sort (s 0)) (ctor a (pi (const x) (const A))))", "(inductive A () 0 (sort 0) (ctor a (pi (const x) (const A))))", "(inductive A () 0 (sort (s 0)) (ctor a (pi (app (const x) (sort 0)) (const A))))",
	"(inductive A () 1 (pi (const x) (sort 0)) (ctor a (pi (const x) (app (const A) #0))))", "(inductive A () 1 (pi (const x) (pi (app (const x) #0) (sort 0))) (ctor a (pi (const x) (pi (app (const x) #0) (app (app (const A) #1) #0)))))",
	"(inductive A () 1 (pi (sort 0) (sort 0)) (ctor a (pi (const x) (app (const A) #0))))", "(inductive A () 0 (sort (s 0)) (ctor a (const A)) (ctor d (const A)))", "(inductive x () 0 (sort 0))", "(inductive A (u) 0 (sort (s u)) (ctor a (pi (const x u) (const A u))))",
}

// Whatever an environment holds, no call panics, and every call ends; with a fault it stays as it was.
func TestWhateverThereIs(t *testing.T) {
	for _, holds := range held {
		for _, text := range asked {
			for _, fuel := range fuels {
				e := reduce.New()
				for _, d := range declared(t, holds) {
					e.Put(d, []string{"u", "v"}, parsed(t, "(pi (const x) (pi #4 (sort w)))"))
				}
				adds(t, e, declared(t, text)[0], fuel)
				Export(e)
			}
		}
	}
}

// What no well-formed tree is makes no call panic, either.
func TestTreesThatCannotBe(t *testing.T) {
	set := parsed(t, setText)
	for kind := -1; kind < 10; kind++ {
		for n := range 4 {
			odd := api.Term{Kind: kind, N: -1, Name: "A", Args: make([]api.Term, n), Levels: make([]api.Level, n)}
			level := api.Level{Kind: kind, Name: "u", Args: make([]api.Level, n)}
			for i, d := range []api.Decl{
				{}, {Kind: kind, Type: set}, {Kind: kind, Name: "A", Type: odd, Value: odd}, {Kind: kind, Name: "A", Type: set, Value: odd, Ctors: []api.Ctor{{}}}, {Kind: kind, Name: "A", Type: set, Arity: n - 2, Params: make([]string, n)},
				{Kind: api.Inductive, Name: "A", Type: set, Ctors: []api.Ctor{{Name: "c", Type: odd}}}, {Kind: api.Def, Name: "A", Type: set, Value: odd}, {Kind: api.Axiom, Name: "A", Type: api.Term{Kind: api.Sort, Levels: []api.Level{level}}},
			} {
				for _, e := range []*reduce.Env{nil, {}, reduce.New(), world(t)} {
					for _, fuel := range []int{math.MinInt, -1, 0, 10} {
						Add(e, d, fuel)
						d.Name += strconv.Itoa(i)
						Export(e)
					}
				}
			}
		}
	}
}
