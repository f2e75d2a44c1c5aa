package syntax

import "provekernel/api"

// shortestKept: texts of expressions that have fewer bytes are written anew each time. keptFrom: how long the whole text must be
// before any is kept: most never come so far, and need not be slowed down.
const (
	shortestKept = 1 << 10
	keptFrom     = 1 << 23
)

// shape of an expression that has parts: two that have the same parts, in the same memory, and are alike besides have the same
// text. The types of a binder's names may share their parts, and those of binders within these theirs: written one by one they
// would take time without end.
type shape struct {
	parts    *api.Expr
	kind     int
	name     string
	implicit bool
}

// stretch of the text: where it begins and ends.
type stretch struct{ from, to int }

func shapeOf(e *api.Expr) shape {
	return shape{parts: &e.Args[0], kind: e.Kind, name: e.Name, implicit: e.Implicit}
}

// repeat writes an expression's text once more, if it has been kept. Else the text is kept when it ends, which stands ahead of
// all that comes behind it.
func (p *printer) repeat(e *api.Expr) bool {
	if len(e.Args) == 0 {
		return false
	}
	kept, ok := p.spelt[shapeOf(e)]
	if !ok {
		p.next(piece{expr: e, ends: true, from: p.start()})
		return false
	}
	if !p.tight {
		p.put(" ")
	}
	p.use(kept.to - kept.from)
	if p.writes {
		p.WriteString(p.String()[kept.from:kept.to])
	}
	p.tight = false
	return true
}

// start is where the next token begins, one that has a blank ahead of it where it may: as all have that an expression begins with.
func (p *printer) start() int {
	if p.tight {
		return p.length
	}
	return p.length + 1
}

// remember keeps the text of an expression that ends here.
func (p *printer) remember(end piece) {
	if p.length >= keptFrom && p.length-end.from >= shortestKept {
		p.spelt[shapeOf(end.expr)] = stretch{end.from, p.length}
	}
}
