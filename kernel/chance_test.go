package kernel

import (
	"math/rand"
	"slices"
	"strconv"
	"strings"
	"testing"

	"provekernel/api"
	"provekernel/check"
	"provekernel/file"
	"provekernel/induct"
	"provekernel/reduce"
)

// more declarations that are right behind the base, some of them by many steps.
const more = `(def mul () (pi (const Nat) (pi (const Nat) (const Nat))) (lam (const Nat) (lam (const Nat) (app (app (app (app (const Nat.rec (s 0)) (lam (const Nat) (const Nat))) (const zero)) (lam (const Nat) (app (const add) #2))) #0))))
(def four () (const Nat) (app (app (const mul) (const two)) (const two)))
(def isFour () (app (app (app (const Eq (s 0)) (const Nat)) (const four)) (app (app (const add) (const two)) (const two))) (app (app (const refl (s 0)) (const Nat)) (app (const succ) (app (const succ) (const two)))))
(axiom q () (pi (app (const P) (const four)) (const N)))
(def useful () (const Nat) (app (const q) (app (const p) (app (app (const mul) (app (const succ) (const one))) (const two)))))
(inductive Le () 1 (pi (const Nat) (pi (const Nat) (sort 0))) (ctor same (pi (const Nat) (app (app (const Le) #0) #0))) (ctor less (pi (const N) (pi (const Nat) (pi (app (app (const Le) #1) #0) (app (app (const Le) #2) (app (const succ) #1)))))))
(axiom le () (app (app (const Le) (const two)) (const four)))
(inductive Sigma (u v) 2 (pi (sort (s u)) (pi (pi #0 (sort (s v))) (sort (s (max u v))))) (ctor pair (pi (sort (s u)) (pi (pi #0 (sort (s v))) (pi #1 (pi (app #1 #0) (app (app (const Sigma u v) #3) #2)))))))
(def fst (u v) (pi (sort (s u)) (pi (pi #0 (sort (s v))) (pi (app (app (const Sigma u v) #1) #0) #2))) (lam (sort (s u)) (lam (pi #0 (sort (s v))) (app (app (app (app (const Sigma.rec (s u) u v) #1) #0) (lam (app (app (const Sigma u v) #1) #0) #2)) (lam #1 (lam (app #1 #0) #1))))))
(def lets () (const Nat) (let (const Type) (const N) (let #0 (const two) (app (app (const add) #0) #0))))
(inductive Tree (r) 1 (pi (sort r) (sort (s r))) (ctor leaf (pi (sort r) (pi #0 (app (const Tree r) #1)))) (ctor node (pi (sort r) (pi (pi (const Nat) (app (const Tree r) #1)) (app (const Tree r) #1)))))
(axiom tree () (app (const Tree (s 0)) (const Nat)))
(axiom six (a b c d e f) (sort (imax a (max b (imax c (s (max d (imax e f))))))))
`

// maker makes texts by chance.
type maker struct{ *rand.Rand }

// text is the declarations above, some of which are left out, stand twice or in another order, with some tokens others,
// or with one between them that is wrong.
func (m maker) text() string {
	lines := slices.DeleteFunc(strings.SplitAfter(baseText()+more, "\n"), func(line string) bool { return line == "" || m.Intn(150) == 0 })
	for m.Intn(5) == 0 {
		i, j := m.Intn(len(lines)), m.Intn(len(lines))
		lines[i], lines[j] = lines[j], lines[i]
	}
	if m.Intn(12) == 0 {
		lines = slices.Insert(lines, m.Intn(len(lines)), lines[m.Intn(len(lines))])
	}
	if m.Intn(6) == 0 {
		lines = slices.Insert(lines, m.Intn(len(lines)), wrongs[m.Intn(len(wrongs))].text)
	}
	lines = lines[:len(lines)-m.Intn(20)]
	for m.Intn(2) > 0 {
		i := m.Intn(len(lines))
		lines[i] = m.changed(lines[i])
	}
	return strings.Join(lines, "")
}

// changed is a line with something else in the place of a token, or of a part in brackets.
func (m maker) changed(line string) string {
	tokens := strings.Fields(strings.ReplaceAll(strings.ReplaceAll(line, "(", " ( "), ")", " ) "))
	from := 3 + m.Intn(len(tokens)-3) // behind the bracket, the word and the name
	behind := from + 1
	if tokens[from] == "(" {
		for deep := 1; deep > 0 && behind < len(tokens); behind++ {
			deep += strings.Count(tokens[behind], "(") - strings.Count(tokens[behind], ")")
		}
	}
	put := m.other(tokens[from], tokens[min(from+1, len(tokens)-1)])
	return strings.Join(slices.Concat(tokens[:from], []string{put}, tokens[behind:]), " ") + "\n"
}

// What may stand in the place of terms, levels, lists of parameters, variables, numbers and names.
var (
	otherTerms = [...]string{
		"(sort 0)", "(sort (s 0))", "(sort u)", "(const Nat)", "(const zero)", "(const N)", "(const Type)", "(const two)", "(app (const succ) #0)", "(app #0 #1)", "(const Big)", "(pi (const Nat) (const Nat))", "(app (const P) #0)",
		"(const id (s 0))", "(const id)", "(const Nat 0)", "(app (const List u v) #0)", "(app (app (const add) (const one)) (const one))", "(lam (const Nat) #0)", "(let (const N) (const one) #0)", "(const Any (s 0) 0)",
		"(app (const List u) #0)", "(app (const Tree r) #0)", "(pi (app (const Tree r) #0) (const Nat))", "(pi (app (const List u) #0) (const Nat))", "(app (app (const W u v) #1) #0)", "(sort (s (s 0)))", "(sort (s u))", "#0", "#1", "#2", "#3",
	}
	otherLevels  = [...]string{"0", "u", "v", "(s 0)", "(s u)", "(s (s u))", "(max u v)", "(imax u v)", "(imax u (s v))", "(imax v 0)"}
	otherParams  = [...]string{"()", "(u)", "(v)", "(u v)", "(v u)", "(u u)", "(r u)", "(a b c d e f g)"}
	otherIndices = [...]string{"#0", "#1", "#2", "#3", "#4", "#99999"}
	otherNumbers = [...]string{"0", "0", "1", "2", "3"}
	otherNames   = [...]string{"u", "v", "r", "Nat", "zero", "succ", "Eq", "List", "Vec", "one", "two", "add", "N", "n", "A", "Nat.rec", "Eq.rec", "Big", "Any"}
	otherTokens  = [...]string{"", ")", "(", "#", "00", "7", "let", "\xff", "axiom", "sort", "s"}
)

// other is what may stand in the place of something that begins with these tokens.
func (m maker) other(token, next string) string {
	one := func(texts []string) string { return texts[m.Intn(len(texts))] }
	switch {
	case m.Intn(60) == 0 || token == ")":
		return one(otherTokens[:])
	case token == "(" && slices.Contains([]string{"sort", "const", "app", "lam", "pi", "let"}, next):
		return one(otherTerms[:])
	case token == "(" && slices.Contains([]string{"s", "max", "imax"}, next):
		return one(otherLevels[:])
	case token == "(":
		return one(otherParams[:])
	case token[0] == '#':
		return one(otherIndices[:])
	case token == "u" || token == "v":
		return one(otherLevels[:])
	case strings.Contains("0123456789", token[:1]):
		return one(otherNumbers[:])
	case slices.Contains([]string{"sort", "const", "app", "lam", "pi", "let", "s", "max", "imax", "ctor"}, token):
		return token
	}
	return one(otherNames[:])
}

// byLayers is what the chapter's words say of a text: layers 3, 5 and 6 are asked, and what is right is put into an environment.
func byLayers(text string, fuel int) (*reduce.Env, int, error) {
	ds, err := file.Parse(text)
	if err != nil {
		return nil, 0, err
	}
	e := reduce.New()
	for i, d := range ds {
		var params []string
		var typ api.Term
		var err error
		switch d.Kind {
		case api.Axiom, api.Def:
			err = check.Decl(e, d, fuel)
		case api.Inductive:
			params, typ, err = induct.Decl(e, d, fuel)
		}
		if code, _ := api.Code(err); code != 0 {
			return e, i, &api.Fault{Code: code, At: i}
		}
		e.Put(d, params, typ)
	}
	return e, len(ds), nil
}

func TestAllThatThereIsIsRight(t *testing.T) {
	text := baseText() + more
	e, n, got := reads(t, text, 100000)
	if n != strings.Count(text, "\n") || got != right {
		t.Errorf("%d added, %s", n, got)
	}
	isRightWithin(t, e)
}

// Texts by chance: what File says is what the layers say; what is added is right, and is told so that File adds it again.
func TestFilesByChance(t *testing.T) {
	counts, last := map[string]int{}, 0
	for seed := range int64(1000) {
		m := maker{rand.New(rand.NewSource(seed))}
		text, fuel := m.text(), []int{100000, 1000, 1000, 40, 3, 0}[m.Intn(6)]
		e, n, got := reads(t, text, fuel)
		want, wantN, err := byLayers(text, fuel)
		if got != said(err) || n != wantN {
			t.Errorf("File(%s), fuel %d: %d added, %s; want %d, %s", text, fuel, n, got, wantN, said(err))
		}
		counts[strings.Fields(got)[0]]++
		if e == nil || want == nil {
			continue
		}
		if seen(e) != seen(want) {
			t.Errorf("File(%s), fuel %d: there is\n%s\nwant\n%s", text, fuel, seen(e), seen(want))
		}
		if seed%10 == 0 {
			isRightWithin(t, e)
		}
		again, n, got := reads(t, Export(e), fuel)
		if got != right || n != len(e.Decls()) || seen(again) != seen(e) {
			t.Errorf("File of an export, %s: %d added, %s", Export(e), n, got)
		}
		last = max(last, n)
	}
	for _, fault := range []string{right, "FText", "FTwice", "FName", "FParam", "FLevels", "FVar", "FFun", "FArg", "FSort", "FForm", "FPos", "FLevel", "FTired"} {
		if counts[fault] < 5 {
			t.Errorf("%s has been said only %d times: %v", fault, counts[fault], counts)
		}
	}
	if last < 30 {
		t.Errorf("at most %d were added", last)
	}
}

// Declarations by chance, added one by one, those that are wrong, too: in the end there is what is right of them.
func TestAddsByChance(t *testing.T) {
	for seed := range int64(100) {
		m := maker{rand.New(rand.NewSource(seed + 5000))}
		e, want := reduce.New(), reduce.New()
		for range 2 {
			ds, err := file.Parse(m.text())
			if err != nil {
				continue
			}
			for _, d := range ds {
				if adds(t, e, d, 1000) != right {
					continue
				}
				params, typ, _ := e.Type(d.Name + ".rec")
				want.Put(d, params, typ)
			}
		}
		if seen(e) != seen(want) {
			t.Errorf("there is\n%s\nwant\n%s", seen(e), seen(want))
		}
		again, n, got := reads(t, Export(e), 1000)
		if n != len(e.Decls()) || got != right || seen(again) != seen(e) {
			t.Errorf("File of an export: %d added, %s", n, got)
		}
	}
}

// What is answered hangs on the arguments alone: not on what was asked ahead.
func TestAnswersAreTheSameAgain(t *testing.T) {
	var first []string
	for round := range 3 {
		for seed := range 60 {
			m := maker{rand.New(rand.NewSource(int64(seed)))}
			e, n, got := reads(t, m.text(), []int{0, 3, 1000}[m.Intn(3)])
			told := got
			if e != nil {
				told += " " + strconv.Itoa(n) + "\n" + seen(e)
			}
			if round == 0 {
				first = append(first, told)
			} else if first[seed] != told {
				t.Errorf("text %d: %s, and at first %s", seed, told, first[seed])
			}
		}
	}
}
