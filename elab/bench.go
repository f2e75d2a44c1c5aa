package elab

import (
	"maps"
	"slices"

	"provekernel/api"
	"provekernel/check"
	"provekernel/fault"
	"provekernel/remake"
	"provekernel/tactic"
	"provekernel/tree"
)

// bench is what the tactics of a command work with.
type bench struct {
	*judge
	params []string // of the command's levels
	claims int      // how many ascriptions there are
	names  names    // of the context in which an expression was read last
	around []string // these, the outermost first
}

func (b *bench) Work() *remake.Budget { return &b.Budget }

func (b *bench) Variable(typ *api.Term) int { return b.newLocal(typ) }

func (b *bench) TypeOf(local int) *api.Term { return b.locals[local].typ }

func (b *bench) TypeOfConstant(name string, ls []api.Level) *api.Term {
	return b.constantType(name, ls)
}

func (b *bench) Solved(t *api.Term) *api.Term { return b.solved(t) }

func (b *bench) Whnf(t *api.Term) *api.Term { return b.whnf(t) }

func (b *bench) IsForm(t *api.Term) bool { return b.inForm(t) }

func (b *bench) StaysForm(t *api.Term) bool { return !b.mayBecome(t) }

func (b *bench) IsOpen(t *api.Term) bool { return b.isOpen(t) }

func (b *bench) FirstOpen(t *api.Term) (int, bool) { return b.firstHole(t) }

func (b *bench) HasEquality() bool { return b.state.known[equality].isEquality }

func (b *bench) FamilyOf(name string) (tactic.Family, bool) {
	known := b.state.known[name]
	if known.family == nil {
		return tactic.Family{}, false
	}
	return *known.family, true
}

func (b *bench) LevelOf(typ *api.Term) (api.Level, bool) {
	l, ok := b.levelOf(typ)
	return plainer(*b.solvedLevel(&l)), ok
}

func (b *bench) Normal(t *api.Term) *api.Term {
	t = b.solved(t)
	b.refresh()
	made, steps, err := b.env.Normal(*t, b.fuel)
	pass(err)
	b.Spend(steps + tree.Parts(&made))
	return &made
}

func (b *bench) Hole(c tactic.Context, typ *api.Term, at int) *api.Term {
	number := b.newHole(at, len(c.Locals))
	b.terms[number].typ = b.Bound(typ, c.Locals)
	return remake.Hole(number, b.variables(c.Locals, len(c.Locals)))
}

func (b *bench) Fits(x, y *api.Term, at int) bool {
	return b.attempt(func() { b.agree(x, y, at) }) == nil
}

func (b *bench) FitsAtOnce(x, y *api.Term, at int) bool {
	return b.attempt(func() {
		b.alone(func() {
			b.agree(x, y, at)
			if len(b.waiting) > 0 {
				fault.ThrowAt(api.FStuck, at)
			}
		})
		b.settle()
	}) == nil
}

// alone does some work while what waits already is out of the way.
func (j *judge) alone(work func()) {
	waiting, looked := j.waiting, j.looked
	j.waiting = nil
	work()
	j.waiting, j.looked = append(waiting[:len(waiting):len(waiting)], j.waiting...), looked
}

// Conclude finds the last of what is left open. Of what an ascription says the kernel sees nothing: it must not wait in the end.
func (b *bench) Conclude() {
	b.settle()
	b.guess()
	if b.claims > 0 && len(b.waiting) > 0 {
		fault.ThrowAt(api.FStuck, b.waiting[0].at)
	}
}

// drafted makes an expression that stands in a context a node.
func (b *bench) drafted(e *api.Expr, c tactic.Context) *node {
	b.enter(c)
	d := &drafter{holes: b.holes, find: b.state.find, names: b.names, depth: len(b.around)}
	n := d.expr(e)
	b.claims += d.claims
	return n
}

// namesAtOnce: how many variables of a context count, where a look at each takes no time, as one part of a term.
const namesAtOnce = 16

// enter tells what the names of a context mean. Most contexts have their front from that of the last one.
func (b *bench) enter(c tactic.Context) {
	b.Spend(len(c.Names) / namesAtOnce)
	if b.names == nil {
		b.names = names{}
	}
	shared := 0
	for shared < min(len(c.Names), len(b.around)) && c.Names[shared] == b.around[shared] {
		shared++
	}
	for _, name := range slices.Backward(b.around[shared:]) {
		b.names.unbind(name)
	}
	for i, name := range c.Names[shared:] {
		b.names.bind(name, shared+i)
	}
	b.around = append(b.around[:shared], c.Names[shared:]...)
}

func (b *bench) Infer(e *api.Expr, c tactic.Context) tactic.Typed {
	var made tactic.Typed
	b.eitherWay(func() {
		n := b.drafted(e, c)
		typ := b.infer(n, c.Locals)
		b.settle()
		made = tactic.Typed{Term: b.term(n, c.Locals), Type: typ, Implicit: n.implicit}
	})
	return made
}

func (b *bench) Sort(e *api.Expr, c tactic.Context) *api.Term {
	var made *api.Term
	b.eitherWay(func() {
		n := b.drafted(e, c)
		b.sort(n, c.Locals)
		b.settle()
		made = b.term(n, c.Locals)
	})
	return made
}

// Check reads an expression that must have a type. What it leaves open must be found at once, but where others that speak of it, or
// of the type, may tell more.
func (b *bench) Check(e *api.Expr, c tactic.Context, typ *api.Term, shared bool) *api.Term {
	var made *api.Term
	typ = b.solved(typ)
	closed := !shared && b.isClosed(c, typ)
	b.eitherWay(func() {
		if closed {
			made = b.complete(e, c, typ)
			return
		}
		n := b.drafted(e, c)
		b.check(n, remake.Opened{Term: typ}, c.Locals)
		b.settle()
		made = b.term(n, c.Locals)
	})
	return made
}

// complete is the term of an expression that must have a type in which, as in its context, nothing is left open: so nothing may be
// left open in the expression. One that leaves nothing open is what it spells, and the kernel alone looks at it.
func (b *bench) complete(e *api.Expr, c tactic.Context, typ *api.Term) *api.Term {
	m, claims := b.mark(), b.claims
	n := b.drafted(e, c)
	behind := b.mark()
	spelt := m.terms == behind.terms && m.levels == behind.levels
	if !spelt || b.claims > claims {
		b.alone(func() { b.closeAll(n, c, typ, m, behind) })
	}
	made := b.solved(b.term(n, c.Locals))
	b.mustBe(made, typ)
	return made
}

// closeAll finds all that is left open in a node: the holes from one mark to another.
func (b *bench) closeAll(n *node, c tactic.Context, typ *api.Term, from, to mark) {
	b.check(n, remake.Opened{Term: typ}, c.Locals)
	b.settle()
	at, open := b.leftOpen(from, to, b.claims > 0)
	if open {
		b.guess()
		at, open = b.leftOpen(from, to, b.claims > 0)
	}
	if open {
		fault.ThrowAt(api.FStuck, at)
	}
	b.waiting = nil
}

// isClosed tells whether nothing is left open in a type and in the types of its context.
func (b *bench) isClosed(c tactic.Context, typ *api.Term) bool {
	b.Spend(len(c.Locals) / namesAtOnce)
	for _, number := range c.Locals {
		if b.locals[number].closed {
			continue
		}
		if b.hasHoles(b.solved(b.locals[number].typ)) {
			return false
		}
		b.locals[number].closed = true
	}
	return !b.hasHoles(typ)
}

// needed are the locals that stand in terms, and those on which their types hang, in order.
func (b *bench) needed(ts ...*api.Term) []int {
	met := map[int]int{}
	for len(ts) > 0 {
		last := len(ts) - 1
		t := ts[last]
		ts = ts[:last]
		b.HasLocal(t, func(number int) bool {
			if _, again := met[number]; !again {
				met[number] = len(met)
				ts = append(ts, b.solved(b.locals[number].typ))
			}
			return false
		})
	}
	return slices.Sorted(maps.Keys(met))
}

// inferred is the type of a term in which nothing is left open, as the kernel tells it, in the context of these locals.
func (b *bench) inferred(locals []int, t *api.Term) (api.Term, error) {
	types := make([]api.Term, len(locals))
	for i, number := range locals {
		types[i] = *b.Bound(b.solved(b.locals[number].typ), locals[:i])
	}
	return check.Infer(b.state.env, b.params, types, *b.Bound(t, locals), b.fuel)
}

// mustBe throws what the kernel says of a term, in which nothing is left open, that must have that type. FArg: it has another one.
func (b *bench) mustBe(t, typ *api.Term) {
	locals := b.needed(t, typ)
	found, err := b.inferred(locals, t)
	fault.Pass(err)
	equal, err := b.state.env.Equal(found, *b.Bound(typ, locals), b.fuel)
	fault.Pass(err)
	if !equal {
		fault.Throw(api.FArg)
	}
}

func (b *bench) IsRight(c tactic.Context, t *api.Term) bool {
	t = b.solved(t)
	if !b.isClosed(c, t) {
		return true
	}
	_, err := b.inferred(b.needed(t), t)
	if code, _ := api.Code(err); code == api.FTired {
		fault.Throw(code)
	}
	return err == nil
}
