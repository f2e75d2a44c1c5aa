package prover_test

import (
	"math/rand"
	"slices"
	"strconv"
	"strings"
	"testing"

	"provekernel/api"
	"provekernel/lib"
	"provekernel/prover"
)

// fuels from none to the most that there is.
var fuels = [...]int{0, 1, 7, 100, 3000, 100000}

// ends runs a text with some fuel: the call ends without a panic, and tells a fault that there is, at a place of the text.
func ends(t *testing.T, text string, fuel int) prover.Report {
	t.Helper()
	r := prover.Process(text, fuel)
	code, at := api.Code(r.Err)
	if code < 0 || code > api.FTactic || at < 0 || at > len(text) || r.Added != len(r.Names) || r.Added != strings.Count(r.Text, "\n") {
		t.Errorf("%s with %d steps: %d added, %s", shortened(text), fuel, r.Added, shown(r.Err))
	}
	return r
}

// soup draws commands of anything that the grammar has, with names that are there for the most part.
type soup struct {
	*rand.Rand
	names []string // of constants
	scope []string // of the binders around
}

// one of some texts.
func (s *soup) one(texts ...string) string { return texts[s.Intn(len(texts))] }

func (s *soup) name() string {
	switch n := s.Intn(30); {
	case n == 0:
		return s.one("x", "y", "h", "a", "ih")
	case n < 15 && len(s.scope) > 0:
		return s.scope[s.Intn(len(s.scope))]
	}
	return s.names[s.Intn(len(s.names))]
}

func (s *soup) level(deep int) string {
	if deep <= 0 || s.Intn(2) == 0 {
		return s.one("0", "1", "u", "v", "7")
	}
	return s.one("("+s.level(deep-1)+"+1)", "(max "+s.level(deep-1)+" "+s.level(deep-1)+")", "(imax "+s.level(deep-1)+" "+s.level(deep-1)+")", "("+s.level(0)+")")
}

// binder draws one, whose name stands in the scope from here on.
func (s *soup) binder(deep int) string {
	typ := s.typ(deep - 1)
	name := s.one("x", "y", "z", "n", "h", "A", "Nat")
	s.scope = append(s.scope, name)
	if s.Intn(4) == 0 {
		return "{" + name + " : " + typ + "}"
	}
	return "(" + name + " : " + typ + ")"
}

// typ draws what is a type, for the most part.
func (s *soup) typ(deep int) string {
	if s.Intn(3) == 0 {
		return s.expr(deep)
	}
	if deep <= 0 || s.Intn(3) == 0 {
		return s.one("Nat", "Nat", "Prop", "Type", "(Nat -> Nat)", "(Nat -> Prop)", "(List Nat)", "(add zero zero = zero)", "False", "(And False False)", "_")
	}
	return s.one("(Not "+s.expr(deep-1)+")", "("+s.apply(deep)+" = "+s.apply(deep)+")", "("+s.typ(deep-1)+" -> "+s.typ(deep-1)+")")
}

func (s *soup) expr(deep int) string {
	if deep <= 0 {
		return s.one(s.name(), s.name(), s.name(), s.name(), "_", "Prop", "Type", "Sort u")
	}
	around := len(s.scope)
	defer func() { s.scope = s.scope[:around] }()
	e := func() string { return s.expr(deep - 1 - s.Intn(2)) }
	switch s.Intn(14) {
	case 0:
		if s.Intn(2) == 0 {
			s.scope = append(s.scope, "w")
			return "(fun w => " + e() + ")"
		}
		return "(fun " + s.binder(deep) + " => " + e() + ")"
	case 1:
		return "(forall " + s.binder(deep) + ", " + s.typ(deep-1) + ")"
	case 2:
		typ, value := s.typ(deep-1), e()
		s.scope = append(s.scope, "l")
		return "(let l : " + typ + " := " + value + " in " + e() + ")"
	case 3:
		return "(" + s.typ(deep-1) + " -> " + s.typ(deep-1) + ")"
	case 4:
		return "(" + s.apply(deep) + " = " + s.apply(deep) + ")"
	case 5:
		return "(" + e() + " : " + s.typ(deep-1) + ")"
	case 6:
		return "@" + s.name()
	case 7:
		return s.names[s.Intn(len(s.names))] + ".{" + s.level(1) + "}"
	case 8:
		return "(Sort " + s.level(2) + ")"
	}
	return "(" + s.apply(deep) + ")"
}

func (s *soup) apply(deep int) string {
	f := s.name()
	if s.Intn(3) == 0 {
		f = s.expr(deep - 1)
	}
	for range s.Intn(4) {
		f += " " + s.expr(deep-1)
	}
	return f
}

func (s *soup) tactic(deep int) string {
	name := s.name()
	tactic := s.one("intro x", "intro x y h", "exact "+s.expr(deep), "apply "+s.expr(deep), "assumption", "refl", "induction "+name, "cases "+name, "rewrite "+s.expr(deep), "have h : "+s.typ(deep), "constructor "+s.one("0", "1", "2", "9"), "exists "+s.expr(deep), "simpl", "symm", "intro x", "refl")
	if strings.HasPrefix(tactic, "intro") {
		s.scope = append(s.scope, "x")
	}
	return tactic
}

// command draws one of that name.
func (s *soup) command(name string, deep int) string {
	s.scope = nil
	head := name + s.one("", "", ".{u}", ".{u, v}") + " "
	for range s.Intn(4) {
		head += s.binder(deep) + " "
	}
	head += ": " + s.typ(deep)
	switch s.Intn(6) {
	case 0:
		return "axiom " + head + "."
	case 1:
		return "def " + head + " := " + s.expr(deep) + "."
	case 2:
		return "theorem " + head + " := " + s.expr(deep) + "."
	case 3:
		text := "inductive " + head
		for i := range s.Intn(3) {
			text += " | " + name + "c" + strconv.Itoa(i) + " : " + s.one(name, s.typ(deep), s.typ(deep)+" -> "+name)
		}
		return text + "."
	}
	text := "theorem " + head + " by " + s.tactic(deep)
	for range s.Intn(6) {
		text += "; " + s.tactic(deep)
	}
	return text + "."
}

// Any commands behind the library, with any fuel that the library takes.
func TestAnyCommands(t *testing.T) {
	t.Parallel()
	library := parsed(t, lib.Text())
	var names []string
	for _, c := range library {
		names = append(names, c.Name)
		for _, ctor := range c.Ctors {
			names = append(names, ctor.Name)
		}
		if c.Kind == api.CInductive {
			names = append(names, c.Name+".rec")
		}
	}
	said := map[string]int{}
	for seed := range int64(500) {
		s := &soup{rand.New(rand.NewSource(seed)), slices.Clone(names), nil}
		text := lib.Text()
		for i := range 1 + s.Intn(3) {
			name := "soup" + strconv.Itoa(i)
			text += s.command(name, s.Intn(4)) + "\n"
			s.names = append(s.names, name)
		}
		fuel := []int{150, 500, 3000, 100000}[s.Intn(4)]
		r := ends(t, text, fuel)
		said[codeOf(r.Err)]++
		if r.Added > len(library) {
			tells(t, text, r)
			holds(t, shortened(text), r, fuel, len(library))
		}
	}
	for _, what := range []string{"right", "FName", "FArg", "FFun", "FSort", "FStuck", "FTactic"} {
		if said[what] < 5 {
			t.Errorf("%s was hardly said: %v", what, said)
		}
	}
}

// Any bytes, any tokens, and texts of which something is left out or doubled, with any fuel.
func TestAnyText(t *testing.T) {
	t.Parallel()
	m := newMixer(1)
	whole := lib.Text() + book
	for i := range 400 {
		var b strings.Builder
		switch i % 4 {
		case 0:
			for range m.Intn(60) {
				b.WriteByte(byte(m.Intn(256)))
			}
		case 1:
			for range m.Intn(60) {
				b.WriteString(m.tokens[m.Intn(len(m.tokens))] + " ")
			}
		case 2:
			from := m.Intn(len(whole))
			b.WriteString(whole[:from] + whole[min(len(whole), from+m.Intn(300)):])
		case 3:
			at := m.Intn(len(whole))
			b.WriteString(whole[:at] + string(whole[m.Intn(len(whole))]) + whole[at:])
		}
		ends(t, b.String(), fuels[m.Intn(len(fuels))])
	}
}

// again is a part as often as fits into so many bytes, around a middle.
func again(room int, part, middle, closing string) string {
	n := room / (len(part) + len(closing))
	return strings.Repeat(part, n) + middle + strings.Repeat(closing, n)
}

// Texts that nest as deep as they can be long, in every place where expressions stand.
func TestDeepTexts(t *testing.T) {
	t.Parallel()
	room := 200000 - len(lib.Text()) - 100
	places := []string{"axiom x : $.", "def x : _ := $.", "def x (y : $) : Nat := zero.", "theorem x : Nat by exact $.", "theorem x : $ by simpl.", "inductive x : Type | y : $.", "theorem x : _ by apply $.", "theorem x : Nat by have h : $."}
	for i, deep := range []string{
		again(room, "(", "Prop", ")"), again(room, "Prop->", "Prop", ""), again(room, "(", "Prop", "->Prop)"), again(room, "fun x=>", "x", ""), again(room, "forall(x:", "Prop", "),Prop"), again(room, "forall(x:Prop),", "x", ""), again(room, "let x:_:=zero in ", "x", ""),
		again(room, "succ(", "zero", ")"), again(room, "", "zero", " zero"), again(room, "(", "zero", ":Nat)"), again(room, "(fun x=>", "x", ")zero"), again(room, "_(", "_", ")"), again(room, "@succ(", "@zero", ")"), again(room, "add(", "zero", ")zero"), again(room, "List(", "Nat", ")"),
		again(room, "Sort(", "0", ")"), again(room/2, "forall(x y:", "Prop", "),Prop"), again(20000, "cons zero(", "nil", ")"), again(20000, "_=(", "_", ")"), again(20000, "symm(", "refl", ")"),
	} {
		for j, fuel := range []int{0, 100000} {
			place := places[(2*i+j)%len(places)]
			ends(t, lib.Text()+strings.Replace(place, "$", deep, 1), fuel)
		}
	}
}

// Texts of very many commands, tactics, binders, constructors or levels.
func TestManyParts(t *testing.T) {
	t.Parallel()
	numbered := func(room int, part string) string {
		var b strings.Builder
		for i := 0; b.Len() < room; i++ {
			b.WriteString(strings.ReplaceAll(part, "%", strconv.Itoa(i)))
		}
		return b.String()
	}
	room := 190000 - len(lib.Text())
	for text, want := range map[string]string{
		numbered(room, "axiom a% : Prop.\n"):                                             "right",
		numbered(room, "def a% : Type := (Prop : Type).\n"):                              "right",
		numbered(room, "theorem a% (n : Nat) : n = n by induction n; refl; refl.\n"):     "right",
		numbered(room, "inductive a% : Type | b% : a% | c% : a% -> a%.\n"):               "right",
		numbered(room, "def a% : Nat := let f : Nat -> Nat := fun n => n in f zero.\n"):  "right",
		numbered(room/9, "theorem a% (m n : Nat) : add m n = add n m := addComm m n.\n"): "right",
		"theorem t : Nat by " + numbered(room, "simpl; ") + "exact zero.":                "right",
		"theorem t : Nat by " + numbered(room, "intro x% y%; ") + "exact zero.":          "FTactic",
		"axiom a" + numbered(60000, " (x% : Nat)") + " : Nat.":                           "right",
		"inductive a : Type" + numbered(20000, " | c% : Nat -> a") + ".":                 "right",
		"axiom a.{u" + numbered(room, ", u%") + "} : Sort u.":                            "FParam",
		"axiom a.{u, v} : Sort " + again(100000, "(max u ", "v", ")") + ".":              "",
		"theorem t : Nat by exact add.{" + numbered(room, "0, ") + "0} zero zero.":       "",
	} {
		r := ends(t, lib.Text()+text, 1000)
		if want != "" && codeOf(r.Err) != want {
			t.Errorf("%.60s ..: %d added, %s; want %s", text, r.Added, shown(r.Err), want)
		}
	}
}
