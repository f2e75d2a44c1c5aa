package syntax

import (
	"math/rand"
	"reflect"
	"strconv"
	"strings"
	"testing"

	"provekernel/api"
)

// drawn is a text that is made by chance, token by token, together with the tree that it must become.
type drawn struct {
	*rand.Rand
	text  strings.Builder
	texts []string // the tokens
	last  string
}

func newDrawn(seed int) *drawn { return &drawn{Rand: rand.New(rand.NewSource(int64(seed)))} }

// pick is a number less than n.
func (d *drawn) pick(n int) int { return d.Intn(n) }

// one of some texts.
func (d *drawn) one(texts ...string) string { return texts[d.pick(len(texts))] }

// say writes a token, and tells where it stands.
func (d *drawn) say(token string) int {
	d.text.WriteString(d.between(token))
	at := d.text.Len()
	d.text.WriteString(token)
	d.texts = append(d.texts, token)
	d.last = token
	return at
}

// between is what stands ahead of a token: nothing, only where none of the two goes on with the other.
func (d *drawn) between(token string) string {
	apart := d.last == "" || strings.Contains("( { .{ ) } , ; | @ +", d.last) || strings.Contains("( ) } , ; | @ +", token)
	if apart && d.pick(2) == 0 {
		return ""
	}
	return d.one(" ", " ", " ", "\n", "\t", "  ", " \n ", "--\n", " -- a : b.\n", "\n--x\n--y(\n")
}

func (d *drawn) name() string {
	return d.one("a", "b", "x", "y'", "A", "Nat.rec", "Eq", "Eq.rec", "f_1", "a.b.c", "intro", "refl", "s", "u", "in.x", "typ", strings.Repeat("n", 40))
}

func (d *drawn) commands(n int) []api.Command {
	var cs []api.Command
	for range n {
		cs = append(cs, d.command())
	}
	return cs
}

func (d *drawn) command() api.Command {
	kind := 1 + d.pick(4)
	c := api.Command{Kind: kind, Name: d.name()}
	c.At = d.say([]string{"", "axiom", "def", "theorem", "inductive"}[kind])
	d.say(c.Name)
	if d.pick(2) == 0 {
		c.Params = d.params()
	}
	for range d.pick(3) {
		for _, b := range d.binder(2) {
			c.Binders = append(c.Binders, b.Binder)
		}
	}
	d.say(":")
	c.Type = d.expr(4)
	switch {
	case kind == api.CInductive:
		for range d.pick(4) {
			c.Ctors = append(c.Ctors, d.ctor())
		}
	case kind == api.CTheorem && d.pick(2) == 0:
		c.ByTactics = true
		c.Tactics = d.proof()
	case kind != api.CAxiom:
		d.say(":=")
		c.Value = d.expr(4)
	}
	d.say(".")
	return c
}

func (d *drawn) params() []string {
	var params []string
	d.say(".{")
	for i := range 1 + d.pick(3) {
		if i > 0 {
			d.say(",")
		}
		params = append(params, d.name())
		d.say(params[i])
	}
	d.say("}")
	return params
}

func (d *drawn) ctor() api.CtorText {
	d.say("|")
	c := api.CtorText{Name: d.name()}
	c.At = d.say(c.Name)
	d.say(":")
	c.Type = d.expr(3)
	return c
}

func (d *drawn) proof() []api.Tactic {
	d.say("by")
	var ts []api.Tactic
	for i := range 1 + d.pick(5) {
		if i > 0 {
			d.say(";")
		}
		ts = append(ts, d.tactic())
	}
	return ts
}

func (d *drawn) tactic() api.Tactic {
	kind := 1 + d.pick(13)
	x := api.Tactic{Kind: kind}
	x.At = d.say(strings.Fields("- intro exact apply assumption refl induction cases rewrite have constructor exists simpl symm")[kind])
	names := 0
	switch kind {
	case api.TIntro:
		names = 1 + d.pick(3)
	case api.TInduction, api.TCases, api.THave:
		names = 1
	}
	for range names {
		x.Names = append(x.Names, d.name())
		d.say(x.Names[len(x.Names)-1])
	}
	switch kind {
	case api.THave:
		d.say(":")
		x.Exprs = []api.Expr{d.expr(3)}
	case api.TExact, api.TApply, api.TRewrite, api.TExists:
		x.Exprs = []api.Expr{d.expr(3)}
	case api.TConstructor:
		x.Number = d.pick(100)
		d.say(strconv.Itoa(x.Number))
	}
	return x
}

// placed is a binder, and the place of its name.
type placed struct {
	api.Binder
	at int
}

func (d *drawn) binder(depth int) []placed {
	implicit := d.pick(2) == 0
	opening, closing := "(", ")"
	if implicit {
		opening, closing = "{", "}"
	}
	d.say(opening)
	var bs []placed
	for range 1 + d.pick(3) {
		name := d.name()
		bs = append(bs, placed{api.Binder{Name: name, Implicit: implicit}, d.say(name)})
	}
	d.say(":")
	typ := d.expr(depth)
	d.say(closing)
	for i := range bs {
		bs[i].Type = typ
	}
	return bs
}

// expr draws any expression, of at most that depth.
func (d *drawn) expr(depth int) api.Expr {
	if depth == 0 {
		return d.atom(0)
	}
	switch d.pick(7) {
	case 0:
		return d.fun(depth)
	case 1:
		d.say("forall")
		bs := d.binder(depth - 1)
		for range d.pick(2) {
			bs = append(bs, d.binder(depth-1)...)
		}
		d.say(",")
		return wrapped(api.XForall, bs, d.expr(depth-1))
	case 2:
		d.say("let")
		e := api.Expr{Kind: api.XLet, Name: d.name()}
		e.At = d.say(e.Name)
		for _, sign := range []string{":", ":=", "in"} {
			d.say(sign)
			e.Args = append(e.Args, d.expr(depth-1))
		}
		return e
	case 3, 4:
		left := d.equal(depth)
		at := d.say("->")
		return api.Expr{Kind: api.XForall, At: at, Args: []api.Expr{left, d.expr(depth - 1)}}
	}
	return d.equal(depth)
}

func (d *drawn) fun(depth int) api.Expr {
	d.say("fun")
	var bs []placed
	for range 1 + d.pick(3) {
		if d.pick(2) == 0 {
			bs = append(bs, d.binder(depth-1)...)
			continue
		}
		b := placed{Binder: api.Binder{Name: d.name()}}
		b.at = d.say(b.Name)
		b.Type = api.Expr{Kind: api.XHole, At: b.at}
		bs = append(bs, b)
	}
	d.say("=>")
	return wrapped(api.XFun, bs, d.expr(depth-1))
}

func wrapped(kind int, bs []placed, e api.Expr) api.Expr {
	for i := len(bs) - 1; i >= 0; i-- {
		e = api.Expr{Kind: kind, At: bs[i].at, Name: bs[i].Name, Implicit: bs[i].Implicit, Args: []api.Expr{bs[i].Type, e}}
	}
	return e
}

func (d *drawn) equal(depth int) api.Expr {
	left := d.apply(depth)
	if d.pick(3) > 0 {
		return left
	}
	at := d.say("=")
	eq := api.Expr{Kind: api.XName, At: at, Name: "Eq", Infix: true}
	e := api.Expr{Kind: api.XApply, At: at, Args: []api.Expr{eq, left}}
	return api.Expr{Kind: api.XApply, At: at, Args: []api.Expr{e, d.apply(depth)}}
}

func (d *drawn) apply(depth int) api.Expr {
	e := d.atom(depth)
	for range d.pick(3) {
		e = api.Expr{Kind: api.XApply, At: e.At, Args: []api.Expr{e, d.atom(depth)}}
	}
	return e
}

func (d *drawn) atom(depth int) api.Expr {
	if depth > 0 && d.pick(3) == 0 {
		return d.brackets(depth)
	}
	e := api.Expr{Kind: api.XSort}
	switch d.pick(8) {
	case 0:
		return api.Expr{Kind: api.XHole, At: d.say("_")}
	case 1:
		e.At = d.say("Prop")
		e.Levels = []api.Level{{}}
	case 2:
		e.At = d.say("Type")
		n := 0
		if d.pick(2) == 0 {
			n = d.pick(5)
			d.say(strconv.Itoa(n))
		}
		e.Levels = []api.Level{raised(api.Level{}, n+1)}
	case 3:
		e.At = d.say("Sort")
		e.Levels = []api.Level{d.levelAtom(2)}
	default:
		return d.called()
	}
	return e
}

func (d *drawn) brackets(depth int) api.Expr {
	at := d.say("(")
	e := d.expr(depth - 1)
	if d.pick(3) == 0 {
		d.say(":")
		e = api.Expr{Kind: api.XIs, At: at, Args: []api.Expr{e, d.expr(depth - 1)}}
	}
	d.say(")")
	return e
}

func (d *drawn) called() api.Expr {
	e := api.Expr{Kind: api.XName, Name: d.name(), Explicit: d.pick(4) == 0, Given: d.pick(4) == 0}
	if e.Explicit {
		e.At = d.say("@")
		d.say(e.Name)
	} else {
		e.At = d.say(e.Name)
	}
	if e.Given {
		d.say(".{")
		for i := range 1 + d.pick(3) {
			if i > 0 {
				d.say(",")
			}
			e.Levels = append(e.Levels, d.level(3))
		}
		d.say("}")
	}
	return e
}

func (d *drawn) level(depth int) api.Level {
	if depth > 0 && d.pick(3) == 0 {
		kind := api.Max + d.pick(2)
		d.say([]string{api.Max: "max", api.IMax: "imax"}[kind])
		a := d.levelAtom(depth - 1)
		return api.Level{Kind: kind, Args: []api.Level{a, d.levelAtom(depth - 1)}}
	}
	l := d.levelAtom(depth)
	for range d.pick(3) {
		n := d.pick(4)
		d.say("+")
		d.say(strconv.Itoa(n))
		l = raised(l, n)
	}
	return l
}

func (d *drawn) levelAtom(depth int) api.Level {
	switch {
	case depth > 0 && d.pick(3) == 0:
		d.say("(")
		l := d.level(depth - 1)
		d.say(")")
		return l
	case d.pick(2) == 0:
		n := d.pick(12)
		d.say(strconv.Itoa(n))
		return raised(api.Level{}, n)
	}
	name := d.name()
	d.say(name)
	return api.Level{Kind: api.Param, Name: name}
}

// A drawn text becomes the tree that it was drawn with, every place included; printed, it becomes the same again.
func TestDrawnTexts(t *testing.T) {
	kinds := make([]int, 10)
	for seed := range 1500 {
		d := newDrawn(seed)
		want := d.commands(d.pick(4))
		text := d.text.String() + d.one("", " ", "\n", "--", "\n-- a")
		if len(text) > longestText {
			continue
		}
		got := parsed(t, text)
		if len(got) != len(want) || len(want) > 0 && !reflect.DeepEqual(got, want) {
			t.Fatalf("seed %d: %q is read as %+v, want %+v", seed, text, got, want)
		}
		for _, c := range got {
			counted(c.Type, kinds)
		}
		printedAgain(t, got)
	}
	for kind := api.XName; kind <= api.XIs; kind++ {
		if kinds[kind] < 100 {
			t.Errorf("only %d expressions of kind %d were drawn", kinds[kind], kind)
		}
	}
}

func counted(e api.Expr, kinds []int) {
	kinds[e.Kind]++
	for _, arg := range e.Args {
		counted(arg, kinds)
	}
}

// printedAgain holds commands that were parsed against what their printed text is parsed as.
func printedAgain(t *testing.T, cs []api.Command) {
	t.Helper()
	text := Print(cs)
	if len(text) > longestText {
		return
	}
	again := parsed(t, text)
	if !reflect.DeepEqual(unplacedAll(again), unplacedAll(cs)) {
		t.Fatalf("%q is read as something else than was printed", text)
	}
	if second := Print(again); second != text {
		t.Fatalf("%q is printed again as %q", text, second)
	}
}
