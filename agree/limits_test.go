package agree

import (
	"math"
	"math/rand"
	"strconv"
	"strings"
	"testing"

	"provekernel/kernel"
	"provekernel/small"
)

// Numbers by which types are found, that take up to nearly all of the fuel that there is; each with just enough of it.
func TestFuelThatIsJustEnough(t *testing.T) {
	t.Parallel()
	const slow = `(def slow () (pi (const Nat) (const Type)) (lam (const Nat) (app (app (app (app (const Nat.rec (s (s 0))) (lam (const Nat) (const Type))) (sort 0)) (lam (const Nat) (lam (const Type) #0))) #0)))
(axiom h () (pi (const Nat) (app (const slow) #0)))`
	const deep = `(def deep () (pi (const Nat) (const Nat)) (lam (const Nat) (app (app (app (app (const Nat.rec (s 0)) (lam (const Nat) (const Nat))) (const zero)) (lam (const Nat) (lam (const Nat) (app (app (app (app (const Nat.rec (s 0)) (lam (const Nat) (const Nat))) (const zero)) (lam (const Nat) (lam (const Nat) (app (const succ) #1)))) #0)))) #0)))`
	// A function whose type comes to a product by many steps, again and again, and that is used often.
	often := "(def slower () (pi (const Nat) (pi (const Type) (const Type))) (lam (const Nat) (lam (const Type) (app (app (app (app (const Nat.rec (s (s 0))) (lam (const Nat) (const Type))) #0) (lam (const Nat) (lam (const Type) #0))) #1))))" +
		"(axiom Q () (pi (const Nat) (sort (s 0))))(axiom R () (pi (const Nat) (pi (app (const Q) #0) (const Nat))))(axiom G () (pi (const Nat) " + repeated(30, "(app (app (const slower) "+num(100)+") (pi (const Nat) ", "(app (const Q) #30)", "))") + "))" +
		"(def x () (pi (const Nat) (const Nat)) (lam (const Nat) (let (pi (const Nat) (app (const Q) #0)) (lam (const Nat) " + repeated(30, "(app ", "(app (const G) #0)", " (const zero))") + ") " +
		counted(60, func(i int) string {
			return numbered("(let (const Nat) (app (app (const R) (app (const succ) #%+)) (app #% (app (const succ) #%+))) ", i)
		}) + "#0" + strings.Repeat(")", 62) + ")"
	eq := func(x, y string) string {
		return "(def e () " + app("(const Eq (s 0))", "(const Nat)", x, y) + " " + app("(const refl (s 0))", "(const Nat)", x) + ")"
	}
	for _, more := range []string{
		often, "(axiom x () (const N))", "(axiom x () (app (const Arr) (const two)))", "(axiom x () (app (const h) (const two)))", "(axiom x () (app (const h) " + num(100) + "))", "(axiom x () (app (const h) " + num(9000) + "))",
		"(axiom x () (app (const h) " + app("(const mul)", num(10), num(30)) + "))", "(axiom x () (app (const h) " + app("(const deep)", num(300)) + "))", "(axiom x () (app (const h) " + app("(const deep)", num(7000)) + "))",
		"(axiom x () (pi (app (const h) " + app("(const add)", num(20), num(30)) + ") (app (const h) " + num(40) + ")))",
		eq(app("(const mul)", num(6), num(7)), num(42)), eq(app("(const mul)", num(6), num(7)), app("(const mul)", num(7), num(6))), eq(app("(const mul)", num(6), num(7)), num(41)), eq(app("(const deep)", num(2000)), num(2000)),
		eq(app("(const sum)", repeated(40, "(app (app (app (const node 0) (const Nat)) (lam (const Nat) (app (app (const leaf 0) (const Nat)) #0))) ", app("(const leaf 0)", "(const Nat)", "(const one)"), ")")), num(81)),
		"(def x () (pi (const Nat) (const Nat)) (lam (const Nat) " + repeated(50, "(let (app (const Arr) (const zero)) ", "#0", " (app (const succ) #0))") + "))",
		"(inductive A () 1 (pi (app (const P) " + app("(const mul)", num(5), num(6)) + ") (sort 0)) (ctor a (pi (app (const P) " + num(30) + ") (app (const A) #0))))",
	} {
		text := worldText + slow + deep + more
		fuel := enough(text)
		if _, _, err := kernel.File(text, fuel); fuel == mostFuel || said(err) == tired {
			t.Errorf("%s takes too many steps", shortened(more))
		}
		for _, fuel := range []int{fuel, fuel + 1, mostFuel} {
			n, got := agrees(t, text, fuel)
			if code := codeOf(got); code != right && code != "FArg" {
				t.Errorf("%s: %s", shortened(more), got)
			}
			if m, err := small.Check(text, fuel-room); m != n || said(err) != got {
				t.Errorf("Check(%s), fuel %d, without room: %d, %s; kernel.File: %d, %s", shortened(more), fuel, m, said(err), n, got)
			}
		}
	}
}

// fuels from none to the most that there is.
var fuels = [...]int{0, 1, 7, 1000, 100000}

// counted are the texts that one makes of the numbers from 0 on, one behind the other.
func counted(n int, one func(i int) string) string {
	var b strings.Builder
	for i := range n {
		b.WriteString(one(i))
	}
	return b.String()
}

// numbered is a text with a number in each of its places.
func numbered(text string, i int) string {
	return strings.ReplaceAll(strings.ReplaceAll(text, "%+", strconv.Itoa(i+1)), "%", strconv.Itoa(i))
}

// Any text: no call panics, and every call ends.
func TestAnyText(t *testing.T) {
	t.Parallel()
	r := rand.New(rand.NewSource(1))
	tokens := []string{"(", "(", "(", ")", ")", ")", "axiom", "def", "inductive", "ctor", "(sort 0)", "(sort (s 0))", "(const a)", "()", "(u)", "#0", "#1", "0", "7", "a", "b", "app", "lam", "pi", "let", "sort", "const", "s", "max", "imax", "u", "(axiom", "(def", "#", "\xff", "é", "00"}
	for range 4000 {
		var b strings.Builder
		for range r.Intn(30) {
			b.WriteString(tokens[r.Intn(len(tokens))])
			b.WriteString([]string{"", " ", " ", "\n"}[r.Intn(4)])
		}
		agrees(t, b.String(), fuels[r.Intn(len(fuels))])
		bytes := make([]byte, r.Intn(40))
		for i := range bytes {
			bytes[i] = byte(r.Intn(256))
		}
		agrees(t, string(bytes), 10)
		agrees(t, "(axiom a () (sort 0))"+string(bytes), 10)
	}
}

// few draws declarations of few names: most are wrong somehow.
type few struct{ *rand.Rand }

func (d few) one(texts ...string) string { return texts[d.Intn(len(texts))] }

func (d few) level() string {
	return d.one("0", "0", "u", "(s 0)", "(s u)", "(max u v)", "(imax u v)")
}

func (d few) term(deep int) string {
	if deep <= 0 || d.Intn(4) == 0 {
		return d.one("#0", "#0", "#1", "#2", "(sort "+d.level()+")", "(sort (s 0))", "(const a)", "(const b)", "(const c "+d.level()+")", "(const d)", "(const a.rec "+d.level()+")", "(const b.rec)")
	}
	made := "(" + d.one("app", "lam", "pi", "let")
	for range 2 + strings.Count(made, "let") {
		made += " " + d.term(deep-1)
	}
	return made + ")"
}

func (d few) declaration() string {
	name, params := d.one("a", "b", "c", "d"), d.one("()", "()", "()", "(u)", "(u v)")
	switch d.Intn(5) {
	case 0:
		return "(axiom " + name + " " + params + " " + d.term(3) + ")"
	case 1:
		return "(axiom " + name + " " + params + " (sort " + d.level() + "))"
	case 2:
		return "(def " + name + " " + params + " " + d.term(2) + " " + d.term(3) + ")"
	case 3:
		return "(def " + name + " " + params + " (sort (s (s 0))) (sort (s 0)))"
	}
	ctor := d.one("(const "+name+")", "(pi (const "+name+") (const "+name+"))", d.term(3))
	return "(inductive " + name + " " + params + " " + d.one("0", "0", "1") + " " + d.one("(sort (s 0))", "(sort 0)", d.term(2)) + " (ctor " + d.one("c", "d") + " " + ctor + "))"
}

// Any declarations.
func TestAnyDeclarations(t *testing.T) {
	t.Parallel()
	d := few{rand.New(rand.NewSource(2))}
	counts := map[string]int{}
	for range 50000 {
		text := ""
		for range 1 + d.Intn(4) {
			text += d.declaration()
		}
		_, got := agrees(t, text, fuels[d.Intn(len(fuels))])
		counts[codeOf(got)]++
	}
	if counts[right] < 2000 || len(counts) < 11 {
		t.Errorf("what is said: %v", counts)
	}
}

// Texts as long as they may be, of one thing over and over, cut off where the length ends.
func TestLongTexts(t *testing.T) {
	t.Parallel()
	for _, c := range []struct{ ahead, over string }{
		{"", "("}, {"", ")"}, {"", "#0 "}, {"", "a"}, {"", "(axiom "}, {"", "(axiom a () (sort 0))"}, {"(axiom a () ", "(app "}, {"(axiom a () ", "(pi "}, {"(axiom a () ", "(let "}, {"(axiom a () ", "(lam #0 "}, {"(axiom a () ", "(app #0 "},
		{"(axiom a () (sort ", "(s "}, {"(axiom a () (sort ", "(max "}, {"(axiom a (", "u "}, {"(axiom a () (const a ", "0 "}, {"(inductive A () 0 (sort 0) ", "(ctor a (const A))"}, {"(def a () (sort 0) ", "(const a) "}, {"(axiom a () #", "1"},
	} {
		text := c.ahead + strings.Repeat(c.over, 200000)
		for _, fuel := range []int{0, 100000} {
			agrees(t, text[:200000], fuel)
			agrees(t, text[:100000]+strings.Repeat(")", 100000), fuel)
			agrees(t, text, fuel)
		}
	}
}

const (
	natText  = "(inductive Nat () 0 (sort (s 0)) (ctor zero (const Nat)) (ctor succ (pi (const Nat) (const Nat))))"
	deepType = "(pi (const Nat) "
)

// variables are n of them, from the outermost on.
func variables(n int) []string {
	var vs []string
	for i := range n {
		vs = append(vs, "#"+strconv.Itoa(n-1-i))
	}
	return vs
}

// Declarations about as large and as deep as the document allows, of any fuel: they are right without a step, or wrong.
func TestLargeTexts(t *testing.T) {
	t.Parallel()
	level, mixed := repeated(250, "(s ", "0", ")"), "z"
	for i := range 70 {
		mixed = "(" + []string{"max", "imax"}[i%2] + " " + string("uvwxyz"[i%6]) + " (s " + mixed + "))"
	}
	const six, itself, set = "u v w x y z", "(const A)", "(sort (s 0))"
	functions := func(n int, inner string) string { return repeated(n, "(lam (const Nat) ", inner, ")") }
	products := func(n int) string { return repeated(n, deepType, "(const Nat)", ")") }
	zeros := func(n int) string {
		return repeated(n, "(app ", "(const f)", " (const zero))")
	}
	for what, c := range map[string]textCase{
		"a great number":               {"(def a () (const Nat) " + num(9900) + ")", 2, right},
		"a great number, wrong inside": {"(def a () (const Nat) " + repeated(9900, "(app (const succ) ", "(const succ)", ")") + ")", 1, "FArg at 1"},
		"many products":                {"(axiom a () " + products(4900) + ")", 2, right},
		"products in products":         {"(axiom a () " + repeated(4900, "(pi ", "(const Nat)", " (const Nat))") + ")", 2, right},
		"products, wrong inside":       {"(axiom a () " + repeated(4900, "(pi ", "(const zero)", " (const Nat))") + ")", 1, "FSort at 1"},
		"many functions":               {"(def a () " + products(4900) + " " + functions(4900, "#4899") + ")", 2, right},
		"many functions, one too few":  {"(def a () " + products(4900) + " " + functions(4899, "#4898") + ")", 1, "FArg at 1"},
		"a far variable":               {"(def a () " + products(4900) + " " + functions(4900, "#4900") + ")", 1, "FVar at 1"},
		"many lets":                    {"(def a () (const Nat) " + repeated(4900, "(let (const Nat) (const zero) ", "#0", ")") + ")", 2, right},
		"many lets, each of the last":  {"(def a () (const Nat) " + repeated(3300, "(let (const Nat) (app (const succ) #0) ", "#0", ")") + ")", 1, "FVar at 1"},
		"lets in values":               {"(def a () (const Nat) " + repeated(4900, "(let (const Nat) ", "(const zero)", " #0)") + ")", 2, right},
		"functions that are applied":   {"(def a () (const Nat) " + repeated(4900, "(app (lam (const Nat) #0) ", "(const zero)", ")") + ")", 2, right},
		"functions in functions":       {"(def a () (const Nat) " + repeated(3300, "(app (lam (const Nat) ", "(const zero)", ") (const zero))") + ")", 2, right},
		"many arguments":               {"(axiom f () " + products(3000) + ")(def a () (const Nat) " + zeros(3000) + ")", 3, right},
		"one argument too many":        {"(axiom f () " + products(3000) + ")(def a () (const Nat) " + zeros(3001) + ")", 2, "FFun at 2"},
		"a deep level":                 {"(axiom a () (sort " + level + "))(def b () (sort (s " + level + ")) (sort " + level + "))(inductive A () 0 (sort " + level + ") (ctor c (pi (const Nat) (const A))))", 4, right},
		"levels with six parameters":   {"(def a (" + six + ") (sort (max (s " + mixed + ") 0)) (sort " + mixed + "))(inductive A (" + six + ") 0 (sort (max (s 0) " + mixed + ")) (ctor c (pi (const Nat) (const A " + six + "))))", 3, right},
		"many constructors":            {"(inductive A () 0 (sort (s 0))" + counted(4500, func(i int) string { return numbered(" (ctor c% (const A))", i) }) + ")", 2, right},
		"many constructors, one twice": {"(inductive A () 0 (sort (s 0))" + counted(4500, func(i int) string { return numbered(" (ctor c% (const A))", i) }) + " (ctor c4499 (const A)))", 1, "FTwice at 1"},
		"recursive arguments":          {"(inductive A () 0 (sort (s 0)) (ctor c " + repeated(2400, "(pi (const A) ", itself, ")") + "))", 2, right},
		"recursive arguments, one bad": {"(inductive A () 0 (sort (s 0)) (ctor c " + repeated(2400, "(pi (const A) ", "(pi (pi (const A) (const A)) (const A))", ")") + "))", 1, "FPos at 1"},
		"a great argument at last":     {"(inductive A () 0 (sort (s 0)) (ctor c " + repeated(4000, deepType, "(pi (sort (s 0)) (const A))", ")") + "))", 1, "FLevel at 1"},
		"99 parameters":                {"(inductive A () 99 " + repeated(99, deepType, set, ")") + " (ctor c " + repeated(99, deepType, app(itself, variables(99)...), ")") + "))", 2, right},
		"99 parameters, two swapped":   {"(inductive A () 99 " + repeated(99, deepType, set, ")") + " (ctor c " + repeated(99, deepType, app(itself, append(variables(99)[:97], "#0", "#1")...), ")") + "))", 1, "FForm at 1"},
		"many indices":                 {"(inductive A () 0 " + repeated(1500, deepType, set, ")") + " (ctor c " + repeated(1500, deepType, app(itself, variables(1500)...), ")") + "))", 2, right},
		"many axioms":                  {counted(7000, func(i int) string { return numbered("(axiom a% () (const Nat))", i) }), 7001, right},
		"many definitions":             {"(def a0 () (const Nat) (const zero))" + counted(4000, func(i int) string { return numbered("(def a%+ () (const Nat) (const a%))", i) }), 4002, right},
		"many families": {counted(1500, func(i int) string {
			return numbered("(inductive A% () 0 (sort (s 0)) (ctor a% (const A%)) (ctor b% (pi (const A%) (const A%))))", i)
		}), 1501, right},
	} {
		if len(natText+c.text) > 200000 {
			t.Errorf("%s: %d bytes", what, len(natText+c.text))
		}
		for _, fuel := range []int{0, 100000} {
			if n, got := agrees(t, natText+c.text, fuel); n != c.n || got != c.want {
				t.Errorf("%s, fuel %d: %d, %s; want %d, %s", what, fuel, n, got, c.n, c.want)
			}
		}
	}
}

// Texts that would have terms formed of far more parts than the document allows, or that ask for more steps: every call ends.
func TestTextsThatGrow(t *testing.T) {
	t.Parallel()
	add := strings.SplitAfter(others, "\n")[0]
	const p = "(axiom P () (pi (const Nat) (sort 0)))(axiom p () (pi (const Nat) (app (const P) #0)))"
	doubled := func(typ, value string) string {
		return counted(100, func(i int) string { return numbered("(def d%+ () "+typ+" "+value+")", i) })
	}
	for what, text := range map[string]string{
		"numbers that double":      natText + add + "(def d0 () (const Nat) (app (const succ) (const zero)))" + doubled("(const Nat)", "(app (app (const add) (const d%)) (const d%))") + p + "(def x () (app (const P) (const d100)) (app (const p) (const d99)))",
		"types that double":        "(def d0 () (sort (s 0)) (sort 0))" + doubled("(sort (s 0))", "(pi (const d%) (const d%))") + "(axiom x () (pi (const d100) (const d99)))",
		"propositions that double": "(axiom Q () (sort 0))(def d0 () (sort 0) (const Q))" + doubled("(sort 0)", "(pi (const d%) (const d%))") + "(axiom x () (const d100))(def y () (const d99) (const x))",
		"functions that double":    natText + "(def d0 () (pi (const Nat) (const Nat)) (const succ))" + doubled("(pi (const Nat) (const Nat))", "(lam (const Nat) (app (const d%) (app (const d%) #0)))") + p + "(def x () (app (const P) (app (const d100) (const zero))) (app (const p) (app (const d99) (const zero))))",
		"lets that double":         natText + add + p + "(def x () (const Nat) (let (const Nat) (const zero) " + repeated(100, "(let (const Nat) (app (app (const add) #0) #0) ", "(app (const p) #0)", ")") + "))",
		"lets that double, equal":  natText + add + p + "(def x () (app (const P) (let (const Nat) (const zero) " + repeated(40, "(let (const Nat) (app (app (const add) #0) #0) ", "#0", ")") + ")) (app (const p) (let (const Nat) (const zero) " + repeated(41, "(let (const Nat) (app (app (const add) #0) #0) ", "#0", ")") + ")))",
		"levels that double": "(def d0 (u) (sort (s u)) (sort u))" + counted(100, func(i int) string {
			return numbered("(def e% (u) (sort (s u)) (const d% (max u u)))(def d%+ (u) (sort (s u)) (const e% (max u u)))", i)
		}),
		"a recursor that is larger": natText + "(inductive A () 0 (sort (s 0)) (ctor c " + repeated(11000, "(pi (const A) ", "(const A)", ")") + "))",
		"very many products":        "(axiom a () " + repeated(14000, "(pi (sort 0) ", "(sort 0)", ")") + ")(def b () (sort (s 0)) (const a))",
		"a level of very many":      "(axiom a () (sort " + repeated(49000, "(s ", "0", ")") + "))",
		"a family of such a level":  "(inductive a () 0 (sort " + repeated(49000, "(s ", "0", ")") + ") (ctor b (const a)))",
		"a deep hole": natText + "(def deep () (pi (const Nat) (const Nat)) (lam (const Nat) (app (app (app (app (const Nat.rec (s 0)) (lam (const Nat) (const Nat))) (const zero)) (lam (const Nat) (lam (const Nat) (app (app (app (app (const Nat.rec (s 0)) (lam (const Nat) (const Nat))) (const zero)) (lam (const Nat) (lam (const Nat) (app (const succ) #1)))) #0)))) #0)))" +
			add + "(def k () (const Nat) " + num(4000) + ")" + counted(10, func(i int) string {
			return numbered("(def k%+ () (const Nat) (app (app (const add) (const k)) (const k)))", i)
		}) + p + "(def x () (app (const P) (app (const deep) " + app("(const add)", "(const k)", app("(const add)", "(const k)", "(const k)")) + ")) (app (const p) (const zero)))",
	} {
		if len(text) > 200000 {
			t.Errorf("%s: %d bytes", what, len(text))
		}
		for _, fuel := range append([]int{math.MinInt, -1, math.MaxInt - 1000}, fuels[:]...) {
			if fuel > 100000 && what != "levels that double" {
				continue // there may be as many steps as there is fuel
			}
			agrees(t, text, fuel)
		}
	}
}

// What is answered hangs on the arguments alone: not on what was asked ahead.
func TestAnswersAreTheSameAgain(t *testing.T) {
	t.Parallel()
	e := world(t)
	var first []string
	for round := range 3 {
		asked := 0
		for seed := range int64(20) {
			d := newDrawer(seed)
			for _, more := range d.declarations(e) {
				n, err := small.Check(worldText+more, []int{0, 3, 1000}[d.Intn(3)])
				told := strconv.Itoa(n) + " " + said(err)
				if round == 0 {
					first = append(first, told)
				} else if first[asked] != told {
					t.Errorf("%s: %s, and at first %s", shortened(more), told, first[asked])
				}
				asked++
			}
		}
	}
}
