package syntax

import (
	"strconv"

	"provekernel/api"
)

// word is the piece that a token is.
func word(text string) piece { return piece{text: text} }

// exprIn is the piece that an expression is in a place that asks for that rank.
func exprIn(e *api.Expr, least rank) piece { return piece{expr: e, least: least} }

// levelIn is the piece that a level is in a place that asks for that rank.
func levelIn(l *api.Level, least rank) piece { return piece{level: l, least: least} }

// part i of an expression; a hole, if it has none, so that no tree makes the printing panic.
func part(e *api.Expr, i int, least rank) piece {
	if i >= len(e.Args) {
		return word("_")
	}
	return exprIn(&e.Args[i], least)
}

// levelPart is part i of a level; 0, if it has none.
func levelPart(l *api.Level, i int) piece {
	if i >= len(l.Args) {
		return word("0")
	}
	return levelIn(&l.Args[i], atom)
}

func words(texts []string) []piece {
	var ps []piece
	for _, text := range texts {
		ps = append(ps, word(text))
	}
	return ps
}

// listed are the pieces of a list of levels or parameters, with its brackets; none of an empty one.
func listed(items []piece) []piece {
	var ps []piece
	sign := ".{"
	for _, item := range items {
		ps = append(ps, word(sign), item)
		sign = ","
	}
	if len(items) > 0 {
		ps = append(ps, word("}"))
	}
	return ps
}

// brackets around a binder.
func brackets(implicit bool) (opening, closing string) {
	if implicit {
		return "{", "}"
	}
	return "(", ")"
}

// rankOf an expression.
func rankOf(e *api.Expr) rank {
	switch e.Kind {
	case api.XFun, api.XForall, api.XLet:
		return loose
	case api.XApply:
		if isEquation(e) {
			return equal
		}
		return apply
	}
	return atom
}

// isEquation tells whether an expression is the sign = between two others.
func isEquation(e *api.Expr) bool {
	return isApplied(e) && isApplied(&e.Args[0]) && e.Args[0].Args[0].Kind == api.XName && e.Args[0].Args[0].Infix
}

func isApplied(e *api.Expr) bool { return e.Kind == api.XApply && len(e.Args) == 2 }

// expr takes an expression apart, in brackets where its place asks for them. One of an unknown kind is printed as a hole.
func (p *printer) expr(e *api.Expr, least rank) {
	if rankOf(e) < least {
		p.next(word("("), exprIn(e, loose), word(")"))
		return
	}
	if p.repeat(e) {
		return
	}
	switch e.Kind {
	case api.XName:
		p.called(e)
	case api.XSort:
		p.sort(e)
	case api.XApply:
		p.apply(e)
	case api.XFun:
		p.under("fun", e, "=>")
	case api.XForall:
		p.forall(e)
	case api.XLet:
		p.next(word("let"), word(e.Name), word(":"), part(e, 0, loose), word(":="), part(e, 1, loose), word("in"), part(e, 2, loose))
	case api.XIs:
		p.next(word("("), part(e, 0, loose), word(":"), part(e, 1, loose), word(")"))
	default:
		p.next(word("_"))
	}
}

// called takes a name apart, from behind: what is put last is printed first.
func (p *printer) called(e *api.Expr) {
	var levels []piece
	for i := range e.Levels {
		levels = append(levels, levelIn(&e.Levels[i], loose))
	}
	if e.Given {
		p.next(listed(levels)...)
	}
	p.next(word(e.Name))
	if e.Explicit {
		p.next(word("@"))
	}
}

func (p *printer) sort(e *api.Expr) {
	level := api.Level{Kind: api.Zero}
	if len(e.Levels) > 0 {
		level = e.Levels[0]
	}
	switch {
	case level.Kind == api.Zero:
		p.next(word("Prop"))
	case isSuccessor(&level) && level.Args[0].Kind == api.Zero:
		p.next(word("Type"))
	default:
		p.next(word("Sort"), levelIn(&e.Levels[0], atom))
	}
}

func (p *printer) apply(e *api.Expr) {
	if isEquation(e) {
		p.next(part(&e.Args[0], 1, apply), word("="), part(e, 1, apply))
		return
	}
	p.next(part(e, 0, apply), part(e, 1, atom))
}

func (p *printer) forall(e *api.Expr) {
	if e.Name == "" {
		p.next(part(e, 0, equal), word("->"), part(e, 1, loose))
		return
	}
	p.under("forall", e, ",")
}

// under takes a binder apart, and what stands under it behind that sign.
func (p *printer) under(begin string, e *api.Expr, sign string) {
	opening, closing := brackets(e.Implicit)
	p.next(word(begin), word(opening), word(e.Name), word(":"), part(e, 0, loose), word(closing), word(sign), part(e, 1, loose))
}

func isSuccessor(l *api.Level) bool { return l.Kind == api.Succ && len(l.Args) == 1 }

// level takes a level apart, in brackets where its place asks for them. One of an unknown kind is printed as 0.
func (p *printer) level(l *api.Level, least rank) {
	base, n := p.takenOff(l)
	isGreater := base.Kind == api.Max || base.Kind == api.IMax
	switch {
	case !isGreater && base.Kind != api.Param:
		p.next(word(strconv.Itoa(n)))
	case !isGreater && n == 0:
		p.next(word(base.Name))
	case least == atom:
		p.next(word("("), levelIn(l, loose), word(")"))
	case n > 0:
		p.next(levelIn(base, atom), word("+"), word(strconv.Itoa(n)))
	case base.Kind == api.Max:
		p.next(word("max"), levelPart(base, 0), levelPart(base, 1))
	default:
		p.next(word("imax"), levelPart(base, 0), levelPart(base, 1))
	}
}

// takenOff is a level without the successors at its top, and how many these are.
func (p *printer) takenOff(l *api.Level) (*api.Level, int) {
	n := 0
	for isSuccessor(l) {
		l = &l.Args[0]
		n++
		p.wait(n)
	}
	return l, n
}
