package induct

import (
	"math/rand"
	"slices"
	"strconv"
	"strings"

	"provekernel/api"
	"provekernel/file"
	"provekernel/term"
	"provekernel/tree"
)

// What a variable is, as the maker knows it.
const (
	isNumber  = iota // of a type that is equal to Nat
	isSet            // a type
	isPred           // of numbers, a proposition
	isElement        // of the variable that stands at of
	isOther          // of a type that the maker does not use
)

// kind of a variable.
type kind struct{ is, of int }

// maker makes families by chance, most of which are right.
type maker struct {
	*rand.Rand
	us      []string
	params  []kind
	indices []kind
	ctx     []kind // the variables that there are, the outermost first
}

func newMaker(seed int64) *maker { return &maker{Rand: rand.New(rand.NewSource(seed))} }

func declText(d api.Decl) string { return file.Print(d) }

// text is the term of a text that is right.
func text(s string) api.Term {
	made, err := term.Parse(s)
	if err != nil {
		panic(s)
	}
	return made
}

func node(k int, parts ...api.Term) api.Term { return api.Term{Kind: k, Args: parts} }

func (m *maker) one(texts ...string) api.Term { return text(texts[m.Intn(len(texts))]) }

// find is a variable of that kind; false: there is none.
func (m *maker) find(k kind) (api.Term, bool) {
	var found []int
	for at, other := range m.ctx {
		if other == k {
			found = append(found, at)
		}
	}
	if len(found) == 0 {
		return api.Term{}, false
	}
	return tree.Variable(len(m.ctx) - 1 - found[m.Intn(len(found))]), true
}

// kinds that a variable may be of.
func (m *maker) kind() kind {
	if at := m.Intn(len(m.ctx) + 1); at < len(m.ctx) && m.ctx[at].is == isSet {
		return kind{isElement, at}
	}
	return kind{is: m.Intn(isPred + 1)}
}

// typ is the type of variables of a kind.
func (m *maker) typ(k kind) api.Term {
	switch k.is {
	case isNumber:
		return m.one(nat, nat, nat, "(const N)", idNat, "(app (lam (sort (s 0)) #0) (const Nat))", "(let (const Nat) (const zero) (const N))")
	case isSet:
		return m.one(set, set, "(const Type)")
	case isPred:
		return m.one("(pi (const Nat) (sort 0))", "(pi (const N) (sort 0))")
	}
	return tree.Variable(len(m.ctx) - 1 - k.of)
}

// term is one of a kind.
func (m *maker) term(k kind) api.Term {
	if found, ok := m.find(k); ok && m.Intn(3) > 0 {
		return found
	}
	switch k.is {
	case isSet:
		return m.one(nat, "(const N)", "(sort 0)")
	case isPred:
		return m.one("(const P)", "(lam (const Nat) (app (const P) (app (const succ) #0)))")
	case isElement:
		found, _ := m.find(k)
		return found
	}
	if m.Intn(2) == 0 {
		return node(api.App, text("(const succ)"), m.term(k))
	}
	return m.one("(const zero)", "(const one)")
}

// family is one with its constructors.
func (m *maker) family() api.Decl {
	m.us = [][]string{nil, nil, {"u"}, {"r"}, {"u", "v"}, {"r1", "r"}}[m.Intn(6)]
	d := api.Decl{Kind: api.Inductive, Name: "A", Params: m.us, Arity: m.Intn(3)}
	var types []api.Term
	for range d.Arity + m.Intn(3) {
		k := m.kind()
		types = append(types, m.typ(k))
		m.ctx = append(m.ctx, k)
	}
	m.params, m.indices = m.ctx[:min(d.Arity, len(m.ctx))], m.ctx[min(d.Arity, len(m.ctx)):]
	d.Type = api.Term{Kind: api.Sort, Levels: []api.Level{m.level()}}
	for _, typ := range slices.Backward(types) {
		d.Type = node(api.Pi, typ, d.Type)
	}
	for i := range []int{0, 1, 1, 1, 2, 3}[m.Intn(6)] {
		d.Ctors = append(d.Ctors, api.Ctor{Name: "c" + strconv.Itoa(i), Type: m.ctor(types[:d.Arity])})
	}
	return d
}

// level is that of the family's sort.
func (m *maker) level() api.Level {
	texts := []string{"0", "0", "0", "(s 0)", "(s 0)", "(s (s 0))", "(s (s 0))"}
	for _, u := range m.us {
		texts = append(texts, "(imax (s "+u+") 0)", "(s "+u+")", "(max (s (s 0)) "+u+")", "(imax "+u+" (s 0))")
		if m.Intn(4) == 0 {
			texts = append(texts, u, "(imax (s 0) "+u+")", "(max "+u+" 0)")
		}
	}
	return m.one("(sort " + texts[m.Intn(len(texts))] + ")").Levels[0]
}

// ctor is a constructor's type. Its parameters' types may be written otherwise than the family's.
func (m *maker) ctor(params []api.Term) api.Term {
	m.ctx = nil
	var types []api.Term
	for i, typ := range params {
		if m.Intn(4) == 0 {
			typ = m.typ(m.params[i])
		}
		types = append(types, typ)
		m.ctx = append(m.ctx, m.params[i])
	}
	for range m.Intn(5) {
		typ, k := m.arg()
		types = append(types, typ)
		m.ctx = append(m.ctx, k)
	}
	made := m.itself()
	for _, typ := range slices.Backward(types) {
		made = node(api.Pi, typ, made)
	}
	return made
}

// arg is an argument's type, and what it is.
func (m *maker) arg() (api.Term, kind) {
	if set, ok := m.find(kind{is: isSet}); ok && m.Intn(3) == 0 {
		return set, kind{isElement, len(m.ctx) - 1 - set.N}
	}
	switch m.Intn(12) {
	case 0:
		return m.typ(kind{is: isSet}), kind{is: isSet}
	case 1:
		return m.typ(kind{is: isPred}), kind{is: isPred}
	case 2, 3:
		return node(api.App, m.term(kind{is: isPred}), m.term(kind{})), kind{is: isOther}
	case 4, 5:
		return m.itself(), kind{is: isOther}
	case 6, 7:
		return m.under(1+m.Intn(2), m.itself), kind{is: isOther}
	case 8:
		return m.under(1, func() api.Term { return text(nat) }), kind{is: isOther}
	case 9:
		if m.Intn(3) == 0 {
			return node(api.Pi, m.itself(), text(nat)), kind{is: isOther}
		}
	}
	return m.typ(kind{}), kind{}
}

// under is what made makes, as a function's result.
func (m *maker) under(n int, made func() api.Term) api.Term {
	if n == 0 {
		return made()
	}
	k := m.kind()
	typ := m.typ(k)
	m.ctx = append(m.ctx, k)
	defer func() { m.ctx = m.ctx[:len(m.ctx)-1] }()
	return node(api.Pi, typ, m.under(n-1, made))
}

// itself is the family with its parameters and some indices.
func (m *maker) itself() api.Term {
	made := text("(const " + strings.Join(append([]string{"A"}, m.us...), " ") + ")")
	for i := range m.params {
		made = node(api.App, made, tree.Variable(len(m.ctx)-1-i))
	}
	for _, k := range m.indices {
		if k.is == isElement && k.of >= len(m.params) {
			k = kind{} // of an index ahead of it: whatever stands in that one's place
		}
		made = node(api.App, made, m.term(k))
	}
	return made
}

// spoil changes something.
func (m *maker) spoil(d *api.Decl) {
	switch n := m.Intn(24); {
	case n == 0:
		d.Arity = max(0, d.Arity+m.Intn(3)-1)
	case n == 1:
		d.Name = []string{"Nat", "zero", "Or.rec", strings.Repeat("A", 37), "B"}[m.Intn(5)]
	case n == 2:
		d.Params = append(slices.Clone(d.Params), []string{"u", "v", "r"}[m.Intn(3)])
	case n == 3:
		d.Params = append(slices.Clone(d.Params), strings.Split("v u a b c d e f", " ")[:m.Intn(9)]...)
	case n < 7:
		d.Type = m.spoiled(d.Type)
	case len(d.Ctors) == 0:
	case n == 7:
		d.Ctors[m.Intn(len(d.Ctors))].Name = []string{"A", "c0", "A.rec", "zero", "c1"}[m.Intn(5)]
	default:
		i := m.Intn(len(d.Ctors))
		d.Ctors[i].Type = m.spoiled(d.Ctors[i].Type)
	}
}

// spoiled is a term with something else in one place.
func (m *maker) spoiled(t api.Term) api.Term {
	if len(t.Args) > 0 && m.Intn(6) > 0 {
		i := m.Intn(len(t.Args))
		t.Args = slices.Clone(t.Args)
		t.Args[i] = m.spoiled(t.Args[i])
		return t
	}
	return m.one(
		"#0", "#1", "#2", "#7", "(const A)", "(const A u)", "(const A 0)", "(const A v u)", nat, "(const N)", "(const zero)", "(const Big)", "(const Any u)", "(const none)", "(const c0)", set, prop,
		"(app (const A) #0)", "(app (const A) (const zero))", "(app (const List 0) (const A))", "(app (const P) #0)", "(app (const Nat) #0)", "(app (const succ) (const Nat))", "(sort u)", "(sort w)",
		"(pi (const Big) (const A))", "(pi (const Nat) (const A))", "(pi (const A) (const Nat))", "(let (const Nat) (const zero) (const A))",
	)
}
