package elab

import (
	"slices"

	"provekernel/api"
	"provekernel/fault"
	"provekernel/remake"
)

// mostNodes: how many nodes the text of a command may have. The document promises nothing of terms that have so many parts;
// trees whose parts share memory may have more than any memory holds.
const mostNodes = 1 << 18

// drafter makes nodes of expressions: it tells what their names mean, and where holes stand.
type drafter struct {
	*holes
	find   func(name string) (constant, bool) // what is known of a constant
	family *api.Command                       // whose constructors are being made; nil: none
	names  names                              // of the binders around
	depth  int                                // how many binders stand around
	params []paramHole
	nodes  int
	claims int // how many ascriptions there are
}

// names: of each how many binders stand outside of those that have it, the innermost last.
type names map[string][]int

// bind says that a binder under that many others has a name.
func (ns names) bind(name string, depth int) { ns[name] = append(ns[name], depth) }

// unbind takes the innermost binder of that name away.
func (ns names) unbind(name string) { ns[name] = ns[name][:len(ns[name])-1] }

// paramHole: a hole for a parameter of a family, in one of its constructors.
type paramHole struct{ hole, number int }

// node is a new one of that kind, of what stands at that place.
func (d *drafter) node(kind kind, at int, parts ...*node) *node {
	d.nodes++
	if d.nodes > mostNodes {
		fault.Throw(api.FTired)
	}
	return &node{kind: kind, at: at, parts: parts}
}

// part i of an expression. Parse answers none that lacks one.
func part(e *api.Expr, i int) *api.Expr {
	if i >= len(e.Args) {
		fault.ThrowAt(api.FText, e.At)
	}
	return &e.Args[i]
}

// expr makes an expression a node.
func (d *drafter) expr(e *api.Expr) *node {
	switch e.Kind {
	case api.XName, api.XApply:
		return d.application(e)
	case api.XSort:
		if len(e.Levels) != 1 {
			fault.ThrowAt(api.FText, e.At)
		}
		n := d.node(universe, e.At)
		n.levels = remake.CopiedLevels(e.Levels)
		return n
	case api.XHole:
		return d.hole(e.At)
	case api.XFun:
		return d.binder(function, e)
	case api.XForall:
		return d.binder(product, e)
	case api.XLet:
		return d.let(e)
	case api.XIs:
		d.claims++
		expression := d.expr(part(e, 0))
		return d.node(ascribed, e.At, expression, d.expr(part(e, 1)))
	}
	fault.ThrowAt(api.FText, e.At)
	return nil
}

// hole is one that stands at that place.
func (d *drafter) hole(at int) *node {
	n := d.node(opening, at)
	n.number = d.newHole(at, d.depth)
	return n
}

// binder makes a fun or a forall a node.
func (d *drafter) binder(kind kind, e *api.Expr) *node {
	typ := d.expr(part(e, 0))
	d.bind(e.Name)
	body := d.expr(part(e, 1))
	d.unbind(e.Name)
	return d.node(kind, e.At, typ, body)
}

func (d *drafter) let(e *api.Expr) *node {
	typ := d.expr(part(e, 0))
	value := d.expr(part(e, 1))
	d.bind(e.Name)
	body := d.expr(part(e, 2))
	d.unbind(e.Name)
	return d.node(binding, e.At, typ, value, body)
}

// bind puts a binder of that name around what is made next.
func (d *drafter) bind(name string) {
	d.names.bind(name, d.depth)
	d.depth++
}

// unbind takes the innermost binder, which has that name, away.
func (d *drafter) unbind(name string) {
	d.names.unbind(name)
	d.depth--
}

// application makes a name, or what is applied to arguments, a node. A constant has holes for those of its implicit arguments
// that stand ahead of one that is given, or at once behind the last one.
func (d *drafter) application(e *api.Expr) *node {
	var args []*api.Expr
	for ; e.Kind == api.XApply; e = part(e, 0) {
		args = append(args, part(e, 1))
	}
	slices.Reverse(args)
	head, signs := d.head(e)
	n := d.node(applied, e.At, head)
	for i, implicit := range signs {
		if implicit {
			n.parts = append(n.parts, d.hole(e.At))
			d.noteParam(head, len(d.terms)-1, i)
			continue
		}
		if len(args) == 0 {
			n.implicit, head.implicit = signs[i:], signs[i:]
			break
		}
		n.parts = append(n.parts, d.expr(args[0]))
		args = args[1:]
	}
	for _, arg := range args {
		n.parts = append(n.parts, d.expr(arg))
	}
	if len(n.parts) == 1 {
		return head
	}
	return n
}

// noteParam remembers a hole, if it stands for that parameter of the family in one of its constructors.
func (d *drafter) noteParam(head *node, hole, number int) {
	if d.family != nil && head.name == d.family.Name {
		d.params = append(d.params, paramHole{hole, number})
	}
}

// head makes what is applied a node, with the signs of the arguments that it has.
func (d *drafter) head(e *api.Expr) (*node, []bool) {
	if e.Kind != api.XName {
		return d.expr(e), nil
	}
	if around := d.names[e.Name]; !e.Infix && len(around) > 0 {
		if e.Given {
			fault.ThrowAt(api.FName, e.At)
		}
		n := d.node(variable, e.At)
		n.number = around[len(around)-1]
		return n, nil
	}
	n := d.node(named, e.At)
	n.name = e.Name
	signs := d.constant(n, e)
	if e.Explicit {
		signs = nil
	}
	return n, signs
}

// constant gives a constant its levels, and answers the signs of its arguments. The family's own has in its constructors the
// levels of its parameters, since no others would do.
func (d *drafter) constant(n *node, e *api.Expr) []bool {
	known, ok := d.find(e.Name)
	own := d.family != nil && d.family.Name == e.Name
	switch {
	case !ok && !own:
		fault.ThrowAt(api.FName, e.At)
	case e.Given:
		n.levels = remake.CopiedLevels(e.Levels)
	case own:
		for _, name := range d.family.Params {
			n.levels = append(n.levels, api.Level{Kind: api.Param, Name: name})
		}
	default:
		for range known.params {
			n.levels = append(n.levels, d.newLevel(e.At))
		}
	}
	if own {
		return ofBinders(d.family.Binders)
	}
	return known.implicit
}
