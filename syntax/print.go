package syntax

import (
	"strconv"
	"strings"

	"provekernel/api"
	"provekernel/fault"
)

// rank of an expression or a level: how closely its parts hold together. What is less than its place in the grammar asks for
// stands there in brackets.
type rank int

// The ranks: of expr (and level), equal, apply, atom (and latom) in the grammar.
const (
	loose rank = iota
	equal
	apply
	atom
)

// piece of what is to be printed: a token, or else an expression or a level, that is taken apart when its turn comes, or the
// end of an expression that has been.
type piece struct {
	text  string
	expr  *api.Expr
	level *api.Level
	least rank
	ends  bool
	from  int // of an end: where the expression's text begins
}

// mostBytes: how many bytes a text may have. mostWaiting: how many pieces may wait to be printed; no tree that is held in
// memory has so many, unless it is a part of itself.
const (
	mostBytes   = 1 << 33
	mostWaiting = 1 << 25
)

// printer writes token after token, or only measures what it would write. It keeps what is still to be printed in a list of its
// own: no tree is too deep for it.
type printer struct {
	strings.Builder
	writes  bool
	length  int     // of the text so far
	room    int     // how many bytes it may have
	tight   bool    // whether the next token stands without a blank ahead
	todo    []piece // the last one is the next
	waiting int     // how many pieces that list may have
	spelt   map[shape]stretch
	tactics []string // their words, by kind
}

func newPrinter(room, waiting int) *printer {
	return &printer{tight: true, room: room, waiting: waiting, spelt: map[shape]stretch{}, tactics: tacticWords()}
}

// textOf is the text of commands. It is measured first: a text that is too long costs no room.
func textOf(cs []api.Command, room int) string {
	measuring := newPrinter(room, mostWaiting)
	measuring.commands(cs)
	writing := newPrinter(room, mostWaiting)
	writing.writes = true
	writing.Grow(measuring.length)
	writing.commands(cs)
	return writing.String()
}

func (p *printer) commands(cs []api.Command) {
	for i := range cs {
		p.command(&cs[i])
	}
}

// print prints pieces, and all that they are made of.
func (p *printer) print(ps ...piece) {
	p.next(ps...)
	for len(p.todo) > 0 {
		last := len(p.todo) - 1
		now := p.todo[last]
		p.todo = p.todo[:last]
		switch {
		case now.ends:
			p.remember(now)
		case now.expr != nil:
			p.expr(now.expr, now.least)
		case now.level != nil:
			p.level(now.level, now.least)
		default:
			p.token(now.text)
		}
	}
}

// next puts pieces ahead of what is still to be printed.
func (p *printer) next(ps ...piece) {
	p.wait(len(p.todo) + len(ps))
	for i := len(ps) - 1; i >= 0; i-- {
		p.todo = append(p.todo, ps[i])
	}
}

// wait throws FTired when so many pieces are too many.
func (p *printer) wait(n int) {
	if n > p.waiting {
		fault.Throw(api.FTired)
	}
}

// token writes one token, with a blank ahead of it where one must stand.
func (p *printer) token(text string) {
	if !p.tight && !hugsLeft(text) {
		p.put(" ")
	}
	p.put(text)
	p.tight = hugsRight(text)
}

// put writes a part of the text, and throws FTired when there is no room left for it.
func (p *printer) put(text string) {
	p.use(len(text))
	if p.writes {
		p.WriteString(text)
	}
}

func (p *printer) use(n int) {
	p.length += n
	if p.length > p.room {
		fault.Throw(api.FTired)
	}
}

// hugsLeft: no blank stands ahead of it.
func hugsLeft(text string) bool {
	switch text {
	case ")", "}", ",", ".", ";", ".{", "+":
		return true
	}
	return false
}

// hugsRight: no blank stands behind it.
func hugsRight(text string) bool {
	switch text {
	case "(", "{", ".{", "@", "+":
		return true
	}
	return false
}

// command prints a command's line. One of an unknown kind is printed as an axiom, so that no tree makes it panic.
func (p *printer) command(c *api.Command) {
	kind := c.Kind
	if kind < api.CAxiom || kind > api.CInductive {
		kind = api.CAxiom
	}
	p.print(word(commandWords[kind]), word(c.Name))
	p.print(listed(words(c.Params))...)
	for i := range c.Binders {
		b := &c.Binders[i]
		opening, closing := brackets(b.Implicit)
		p.print(word(opening), word(b.Name), word(":"), exprIn(&b.Type, loose), word(closing))
	}
	p.print(word(":"), exprIn(&c.Type, loose))
	switch {
	case kind == api.CInductive:
		p.ctors(c.Ctors)
	case kind == api.CTheorem && c.ByTactics:
		p.proof(c.Tactics)
	case kind != api.CAxiom:
		p.print(word(":="), exprIn(&c.Value, loose))
	}
	p.print(word("."))
	p.put("\n")
	p.tight = true
}

func (p *printer) ctors(cs []api.CtorText) {
	for i := range cs {
		p.print(word("|"), word(cs[i].Name), word(":"), exprIn(&cs[i].Type, loose))
	}
}

func (p *printer) proof(ts []api.Tactic) {
	sign := "by"
	for i := range ts {
		p.print(word(sign))
		p.tactic(&ts[i])
		sign = ";"
	}
}

// tactic prints one tactic; one of an unknown kind is none.
func (p *printer) tactic(t *api.Tactic) {
	if t.Kind < api.TIntro || t.Kind > api.TSymm {
		return
	}
	shape := tacticShapes[t.Kind]
	p.print(word(p.tactics[t.Kind]))
	p.print(words(t.Names)...)
	if shape.name && shape.expr {
		p.print(word(":"))
	}
	if shape.number {
		p.print(word(strconv.Itoa(t.Number)))
	}
	for i := range t.Exprs {
		p.print(exprIn(&t.Exprs[i], loose))
	}
}
