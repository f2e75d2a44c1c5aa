package agree

import (
	"math/rand"
	"regexp"
	"slices"

	"provekernel/api"
	"provekernel/term"
)

// What drawn terms are of, and what variables are.
const (
	aNumber = iota
	aBool
	aList // of numbers
	aTree // of numbers
	aUnary
	aNumberType // a type that is equal to Nat
	aUnaryType
	aProof // of P of a number that is equal to two
	aUnused
)

// drawer draws terms that are right, most of them, in an environment that knows the world.
type drawer struct {
	*rand.Rand
	ctx []int // what the variables are, the outermost first
}

func newDrawer(seed int64) *drawer { return &drawer{rand.New(rand.NewSource(seed)), nil} }

func joined(kind int, parts ...api.Term) api.Term { return api.Term{Kind: kind, Args: parts} }

// made is the term of a text, whose $0, $1, .. are terms.
func made(text string, parts ...api.Term) api.Term {
	t, err := term.Parse(placeholder.ReplaceAllString(text, "(const _$1)"))
	if err != nil {
		panic(text)
	}
	return filled(t, parts)
}

var placeholder = regexp.MustCompile(`\$(\d)`)

// filled is a term with terms in the place of the constants _0, _1, ..
func filled(t api.Term, parts []api.Term) api.Term {
	if t.Kind == api.Const && t.Name[0] == '_' {
		return parts[t.Name[1]-'0']
	}
	for i, part := range t.Args {
		t.Args[i] = filled(part, parts)
	}
	return t
}

// under draws with one more variable.
func (d *drawer) under(what int, draw func() api.Term) api.Term {
	d.ctx = append(d.ctx, what)
	defer func() { d.ctx = d.ctx[:len(d.ctx)-1] }()
	return draw()
}

// leaf is a variable that is that, if there is one; else one of these, mostly.
func (d *drawer) leaf(what int, texts ...string) api.Term {
	var found []int
	for i, is := range d.ctx {
		if is == what {
			found = append(found, len(d.ctx)-1-i)
		}
	}
	if len(found) > 0 && d.Intn(3) > 0 {
		return api.Term{Kind: api.Var, N: found[d.Intn(len(found))]}
	}
	return made(texts[d.Intn(len(texts))])
}

// function is one of things that are that, with what else there is drawn inside.
func (d *drawer) function(what int, typ api.Term, draw func() api.Term) api.Term {
	return joined(api.Lam, typ, d.under(what, draw))
}

// typeOf is a type of things that are that.
func (d *drawer) typeOf(what, deep int) api.Term {
	switch what {
	case aNumber:
		return d.draw(aNumberType, deep)
	case aUnary:
		return d.draw(aUnaryType, deep)
	case aBool:
		return made("(const Bool)")
	case aList:
		return made("(app (const List 0) $0)", d.draw(aNumberType, deep-2))
	case aTree:
		return made("(app (const Tree 0) $0)", d.draw(aNumberType, deep-2))
	case aProof:
		return made("(app (const P) $0)", d.leaf(aUnused, "(const two)", "(app (const succ) (const one))", num(2)))
	}
	return made("(sort (s 0))")
}

// things are those of which variables can be.
var things = [...]int{aNumber, aNumber, aNumber, aBool, aList, aTree, aUnary, aUnary, aNumberType, aUnaryType, aProof}

// draw draws a term that is that.
func (d *drawer) draw(what, deep int) api.Term {
	if deep <= 0 {
		return d.plain(what)
	}
	if d.Intn(3) == 0 {
		return d.wrapped(what, deep)
	}
	draws := [...]func(deep int) api.Term{
		aNumber: d.number, aBool: d.bool, aList: d.list, aTree: d.tree, aUnary: d.unary, aNumberType: d.numberType, aUnaryType: d.unaryType, aProof: d.proof,
	}
	return draws[what](deep - 1)
}

// plain draws a term that is that, and that takes no step.
func (d *drawer) plain(what int) api.Term {
	switch what {
	case aNumber:
		return d.leaf(what, "(const zero)", "(const one)", "(const two)", "(const n)", num(3))
	case aBool:
		return d.leaf(what, "(const true)", "(const false)")
	case aList:
		return d.leaf(what, "(app (const nil 0) (const Nat))", "(app (app (app (const cons 0) (const N)) (const n)) (app (const nil 0) (const Nat)))")
	case aTree:
		return d.leaf(what, "(app (app (const leaf 0) (const Nat)) (const one))", "(app (app (const leaf 0) (const N)) (const n))")
	case aUnary:
		return d.leaf(what, "(const succ)", "(const f)", "(const g)", "(lam (const Nat) #0)")
	case aNumberType:
		return d.leaf(what, "(const Nat)", "(const Nat)", "(const N)")
	case aUnaryType:
		return d.leaf(what, "(const Unary)", "(pi (const Nat) (const Nat))", "(const Deep)")
	}
	return d.leaf(what, "(app (const p) (const two))", "(app (const p) (app (const succ) (const one)))")
}

// wrapped is a term around one that is that: it comes to that one.
func (d *drawer) wrapped(what, deep int) api.Term {
	inner := func() api.Term { return d.draw(what, deep-1) }
	other := things[d.Intn(len(things))]
	levels := "(s 0)"
	if what == aNumberType || what == aUnaryType {
		levels = "(s (s 0))"
	} else if what == aProof {
		levels = "0"
	}
	switch d.Intn(6) {
	case 0:
		return joined(api.Let, d.typeOf(other, deep-2), d.draw(other, deep-2), d.under(other, inner))
	case 1:
		return made("(app $0 $1)", d.function(other, d.typeOf(other, deep-2), inner), d.draw(other, deep-2))
	case 2:
		return made("(app (app (const id "+levels+") $0) $1)", d.typeOf(what, deep-2), inner())
	case 3:
		return made("(app (app (app (app (const Bool.rec "+levels+") $0) $1) $2) $3)", d.function(aBool, made("(const Bool)"), func() api.Term { return d.typeOf(what, deep-2) }), inner(), d.draw(what, deep-2), d.draw(aBool, deep-2))
	case 4:
		return made("(app (app (app (app $0 $1) $2) $3) $4)",
			made("(lam (sort (s 0)) (lam (pi #0 (sort "+levels+")) (lam #1 (lam (pi #2 (app #2 #0)) (app #0 #1)))))"), made("(const Nat)"),
			d.function(aNumber, made("(const Nat)"), func() api.Term { return d.typeOf(what, deep-2) }), d.draw(aNumber, deep-2), d.function(aNumber, made("(const Nat)"), inner))
	}
	return inner()
}

func (d *drawer) number(deep int) api.Term {
	nat := func() api.Term { return d.draw(aNumber, deep) }
	switch d.Intn(11) {
	case 0:
		return made("(app (const succ) $0)", nat())
	case 1:
		return made("(app (app (const add) $0) $1)", nat(), nat())
	case 2:
		return made("(app (app (const mul) $0) $1)", d.draw(aNumber, deep-2), d.draw(aNumber, deep-2))
	case 3, 4:
		return made("(app $0 $1)", d.draw(aUnary, deep), nat())
	case 5:
		return made("(app (app (const length 0) $0) $1)", d.draw(aNumberType, deep-1), d.draw(aList, deep))
	case 6:
		return made("(app (const sum) $0)", d.draw(aTree, deep))
	case 7:
		return made("(app (const q) $0)", d.draw(aProof, deep))
	case 8:
		step := d.function(aNumber, made("(const Nat)"), func() api.Term {
			return d.function(aNumber, d.draw(aNumberType, deep-2), func() api.Term { return d.draw(aNumber, deep-2) })
		})
		motive := d.function(aNumber, d.draw(aNumberType, deep-1), func() api.Term { return d.draw(aNumberType, deep-2) })
		return made("(app (app (app (app (const Nat.rec (s 0)) $0) $1) $2) $3)", motive, nat(), step, nat())
	case 9:
		return made("(app (app (app (app (app (app (const subst (s 0) (s 0)) (const Nat)) $0) (lam (const Nat) (const N))) $1) $0) (app (app (const refl (s 0)) $2) $0))", d.draw(aNumber, deep-1), nat(), d.draw(aNumberType, deep-1))
	}
	return d.plain(aNumber)
}

func (d *drawer) bool(deep int) api.Term {
	if d.Intn(2) == 0 {
		return made("(app (const isZero) $0)", d.draw(aNumber, deep))
	}
	return d.plain(aBool)
}

func (d *drawer) list(deep int) api.Term {
	switch d.Intn(3) {
	case 0:
		return made("(app (app (app (const cons 0) $0) $1) $2)", d.draw(aNumberType, deep-1), d.draw(aNumber, deep), d.draw(aList, deep))
	case 1:
		return made("(app (app (app (const append 0) $0) $1) $2)", d.draw(aNumberType, deep-1), d.draw(aList, deep), d.draw(aList, deep))
	}
	step := made("(lam (const Nat) (lam (const Nat) $0))", d.under(aNumber, func() api.Term { return d.under(aNumber, func() api.Term { return d.draw(aNumber, deep-1) }) }))
	return made("(app (app (app (app (app (const List.rec (s 0) 0) (const Nat)) (lam (app (const List 0) (const N)) (app (const List 0) (const Nat)))) (app (const nil 0) (const Nat))) (lam (const Nat) (lam (app (const List 0) (const Nat)) (lam (app (const List 0) (const Nat)) (app (app (app (const cons 0) (const Nat)) (app (app $0 #2) (const one))) #0))))) $1)",
		term.Lift(step, 3, 0), d.draw(aList, deep))
}

func (d *drawer) tree(deep int) api.Term {
	if d.Intn(3) == 0 {
		return made("(app (app (const leaf 0) $0) $1)", d.draw(aNumberType, deep-1), d.draw(aNumber, deep))
	}
	branches := d.function(aNumber, d.draw(aNumberType, deep-1), func() api.Term { return d.draw(aTree, deep-1) })
	return made("(app (app (app (const node 0) (const Nat)) $0) $1)", branches, d.draw(aTree, deep-1))
}

func (d *drawer) unary(deep int) api.Term {
	switch d.Intn(7) {
	case 0:
		return made("(app (const add) $0)", d.draw(aNumber, deep))
	case 1, 2:
		return d.function(aNumber, d.draw(aNumberType, deep), func() api.Term { return d.draw(aNumber, deep) })
	case 3:
		return made("(app (app (app (app (app (const comp (s 0) (s 0) (s 0)) $0) (const Nat)) (const N)) $1) $2)", d.draw(aNumberType, deep-2), d.draw(aUnary, deep-1), d.draw(aUnary, deep-1))
	case 4:
		return made("(lam $0 (app $1 #0))", d.draw(aNumberType, deep-1), term.Lift(d.draw(aUnary, deep), 1, 0))
	case 5:
		return made("(app (const arr) (const one))")
	}
	step := d.function(aNumber, made("(const Nat)"), func() api.Term {
		return d.function(aUnary, d.draw(aUnaryType, deep-2), func() api.Term { return d.draw(aUnary, deep-2) })
	})
	return made("(app (app (app (app (const Nat.rec (s 0)) (lam (const Nat) (const Unary))) $0) $1) $2)", d.draw(aUnary, deep-1), step, d.draw(aNumber, deep-1))
}

func (d *drawer) numberType(deep int) api.Term {
	switch d.Intn(4) {
	case 0:
		return made("(app (const Arr) (app (lam (const Nat) (const zero)) $0))", d.draw(aNumber, deep-1))
	case 1:
		return made("(app (lam (const Type) #0) $0)", d.draw(aNumberType, deep))
	}
	return d.plain(aNumberType)
}

func (d *drawer) unaryType(deep int) api.Term {
	switch d.Intn(3) {
	case 0:
		return made("(app (const Arr) (const one))")
	case 1:
		return made("(pi $0 (const N))", d.draw(aNumberType, deep))
	}
	return d.plain(aUnaryType)
}

func (d *drawer) proof(int) api.Term {
	return made("(app (const p) $0)", d.leaf(aUnused, "(const two)", "(app (app (const add) (const one)) (const one))", "(let (const Nat) (const one) (app (const succ) #0))", num(2), "(app (app (app (app (const Nat.rec (s 0)) (lam (const Nat) (const Nat))) (const zero)) (lam (const Nat) (lam (const Nat) (const two)))) (const one))"))
}

// any draws a term, also of a type that hangs on terms, or that has levels.
func (d *drawer) any(deep int) api.Term {
	if deep > 1 && d.Intn(2) == 0 {
		return d.around(deep, func() api.Term { return d.any(deep - 2) })
	}
	what := things[d.Intn(len(things))]
	switch d.Intn(10) {
	case 0:
		return joined(api.Pi, d.typeOf(what, deep-2), d.under(what, func() api.Term { return d.typeOf(things[d.Intn(len(things))], deep-2) }))
	case 1, 2:
		return made("(app (const p) $0)", d.draw(aNumber, deep-1))
	case 3, 4:
		return made("(app (app (const refl (s 0)) $0) $1)", d.typeOf(aNumber, deep-1), d.draw(aNumber, deep-1))
	case 5:
		return made("(app (app (app (app (const vcons 0) $0) (const zero)) $1) (app (const vnil 0) (const N)))", d.draw(aNumberType, deep-1), d.draw(aNumber, deep-1))
	case 6:
		return made("(app (const arr) $0)", d.draw(aNumber, deep-2))
	case 7:
		return d.leaf(aUnused, "(const id u)", "(sort (imax u v))", "(const Tree.rec u v)", "(const Acc.rec (s u) v)", "(const W (max u v) 0)", "(pi (sort u) (pi (sort v) (pi #1 #1)))", "(app (const id (s u)) (sort u))", "(const six u v u v u v)", "(const comp u v (imax u v))")
	}
	return d.draw(what, deep)
}

// around draws what binds variables around a term, whose type may hang on them.
func (d *drawer) around(deep int, inner func() api.Term) api.Term {
	what := things[d.Intn(len(things))]
	if d.Intn(2) == 0 {
		what = aNumber
	}
	typ := d.typeOf(what, deep-3)
	switch d.Intn(5) {
	case 0:
		return joined(api.Let, typ, d.draw(what, deep-3), d.under(what, inner))
	case 1:
		return made("(app $0 $1)", d.function(what, typ, inner), d.draw(what, deep-3))
	case 2:
		return made("(lam (sort u) (lam #0 $0))", d.under(aUnused, func() api.Term { return d.under(aUnused, inner) }))
	}
	return d.function(what, typ, inner)
}

// spoiled is a term with something else in one place.
func (d *drawer) spoiled(t api.Term) api.Term {
	if len(t.Args) > 0 && d.Intn(8) > 0 {
		i := d.Intn(len(t.Args))
		t.Args = slices.Clone(t.Args)
		t.Args[i] = d.spoiled(t.Args[i])
		return t
	}
	return d.leaf(aUnused, "#0", "#1", "#2", "#7", "(sort 0)", "(sort v)", "(sort w)", "(const none)", "(const Nat)", "(const Nat u)", "(const zero)", "(const two)", "(const succ)", "(const id (s 0))", "(const id)", "(const id w)",
		"(const P)", "(const Deep)", "(const true)", "(app (const nil 0) (const Nat))", "(const Bool)", "(const Nat.rec 0)", "(const Bool.rec (s 0))", "(lam (const Nat) #0)", "(app (const succ) #0)")
}
