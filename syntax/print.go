package syntax

import (
	"strconv"
	"strings"

	"provekernel/api"
	"provekernel/fault"
)

// rank of an expression or a level: how closely its parts hold together. What is less than its place in the grammar asks for
// stands there in brackets.
type rank int

// The ranks: of expr (and level), equal, apply, atom (and latom) in the grammar.
const (
	loose rank = iota
	equal
	apply
	atom
)

// piece of what is to be printed: a token, or else an expression or a level, that is taken apart when its turn comes.
type piece struct {
	text  string
	expr  *api.Expr
	level *api.Level
	least rank
}

// mostRoom: how many bytes a text and the pieces that it is made of may take up. pieceRoom: how many one piece counts.
const (
	mostRoom  = 1 << 31
	pieceRoom = 40
)

// printer writes token after token. It keeps what is still to be printed in a list of its own: no tree is too deep for it.
type printer struct {
	strings.Builder
	tight   bool    // whether the next token stands without a blank ahead
	todo    []piece // the last one is the next
	room    int
	tactics []string // their words, by kind
}

func newPrinter(room int) *printer {
	return &printer{tight: true, room: room, tactics: tacticWords()}
}

// print prints pieces, and all that they are made of.
func (p *printer) print(ps ...piece) {
	p.next(ps...)
	for len(p.todo) > 0 {
		last := len(p.todo) - 1
		now := p.todo[last]
		p.todo = p.todo[:last]
		switch {
		case now.expr != nil:
			p.expr(now.expr, now.least)
		case now.level != nil:
			p.level(now.level, now.least)
		default:
			p.token(now.text)
		}
	}
}

// next puts pieces ahead of what is still to be printed.
func (p *printer) next(ps ...piece) {
	p.use(pieceRoom * len(ps))
	for i := len(ps) - 1; i >= 0; i-- {
		p.todo = append(p.todo, ps[i])
	}
}

// token writes one token, with a blank ahead of it where one must stand.
func (p *printer) token(text string) {
	p.use(len(text) + 1)
	if !p.tight && !hugsLeft(text) {
		p.WriteByte(' ')
	}
	p.WriteString(text)
	p.tight = hugsRight(text)
}

// use takes room, and throws FTired when there is none left.
func (p *printer) use(n int) {
	p.room -= n
	if p.room < 0 {
		fault.Throw(api.FTired)
	}
}

// hugsLeft: no blank stands ahead of it.
func hugsLeft(text string) bool {
	switch text {
	case ")", "}", ",", ".", ";", ".{", "+":
		return true
	}
	return false
}

// hugsRight: no blank stands behind it.
func hugsRight(text string) bool {
	switch text {
	case "(", "{", ".{", "@", "+":
		return true
	}
	return false
}

// command prints a command's line. One of an unknown kind is printed as an axiom, so that no tree makes it panic.
func (p *printer) command(c *api.Command) {
	kind := c.Kind
	if kind < api.CAxiom || kind > api.CInductive {
		kind = api.CAxiom
	}
	p.print(word(commandWords[kind]), word(c.Name))
	p.print(listed(words(c.Params))...)
	for i := range c.Binders {
		b := &c.Binders[i]
		opening, closing := brackets(b.Implicit)
		p.print(word(opening), word(b.Name), word(":"), exprIn(&b.Type, loose), word(closing))
	}
	p.print(word(":"), exprIn(&c.Type, loose))
	switch {
	case kind == api.CInductive:
		p.ctors(c.Ctors)
	case kind == api.CTheorem && c.ByTactics:
		p.proof(c.Tactics)
	case kind != api.CAxiom:
		p.print(word(":="), exprIn(&c.Value, loose))
	}
	p.print(word("."))
	p.use(1)
	p.WriteByte('\n')
	p.tight = true
}

func (p *printer) ctors(cs []api.CtorText) {
	for i := range cs {
		p.print(word("|"), word(cs[i].Name), word(":"), exprIn(&cs[i].Type, loose))
	}
}

func (p *printer) proof(ts []api.Tactic) {
	sign := "by"
	for i := range ts {
		p.print(word(sign))
		p.tactic(&ts[i])
		sign = ";"
	}
}

// tactic prints one tactic; one of an unknown kind is none.
func (p *printer) tactic(t *api.Tactic) {
	if t.Kind < api.TIntro || t.Kind > api.TSymm {
		return
	}
	shape := tacticShapes[t.Kind]
	p.print(word(p.tactics[t.Kind]))
	p.print(words(t.Names)...)
	if shape.name && shape.expr {
		p.print(word(":"))
	}
	if shape.number {
		p.print(word(strconv.Itoa(t.Number)))
	}
	for i := range t.Exprs {
		p.print(exprIn(&t.Exprs[i], loose))
	}
}
