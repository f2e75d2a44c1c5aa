package elab

import (
	"provekernel/api"
	"provekernel/fault"
	"provekernel/reduce"
	"provekernel/remake"
	"provekernel/tree"
)

// mostWork: how many parts of terms may be looked at for one command. What the document promises is found with far less.
const mostWork = 1 << 26

// local: a variable of a context.
type local struct {
	term  *api.Term
	typ   *api.Term
	isLet bool      // it has a value, that the judge's environment knows
	value *api.Term // of a let in whose value something is left open

	closed bool // nothing is left open in its type
}

// judge finds what is left open in a text, so that the whole has a type. It throws the first fault that it meets.
type judge struct {
	*holes
	remake.Budget
	state   *State
	env     *reduce.Env // what has been added, and lets
	hasLets bool        // whether it has some already
	open    []int       // lets in whose values something is left open
	known   int         // how often something had been found, or taken back, when their values were put there
	fuel    int
	locals  []local
	waiting []claim
	looked  int // how much had been found when all that waits was looked at
	place   int // of what is being held against one another
	family  *api.Decl
	types   map[string]declared

	argsFirst bool // arguments are looked at ahead of the type that an application must have
}

// declared: a constant's parameters and type.
type declared struct {
	params []string
	typ    api.Term
}

func newJudge(s *State, h *holes, fuel int) *judge {
	return &judge{holes: h, Budget: remake.Budget{Left: mostWork}, state: s, env: s.env, fuel: fuel, types: map[string]declared{}}
}

// newLocal makes a variable of that type: its number.
func (j *judge) newLocal(typ *api.Term) int {
	number := len(j.locals)
	j.locals = append(j.locals, local{term: remake.Local(number), typ: typ})
	return number
}

// newVariable makes a variable of that type, and answers it as a term.
func (j *judge) newVariable(typ *api.Term) *api.Term {
	number := j.newLocal(typ)
	return j.locals[number].term
}

// newLet makes a variable that stands for a value.
func (j *judge) newLet(typ, value *api.Term) int {
	number := j.newLocal(typ)
	j.locals[number].isLet = true
	value = j.solved(value)
	j.putLet(number, value)
	if j.hasHoles(value) {
		j.locals[number].value = value
		j.open = append(j.open, number)
	}
	return number
}

// putLet tells the environment what a let stands for.
func (j *judge) putLet(number int, value *api.Term) {
	d := api.Decl{Kind: api.Def, Name: j.locals[number].term.Name, Value: *value}
	if j.hasLets {
		j.env.Put(d, nil, api.Term{})
	} else {
		j.env, j.hasLets = j.env.With(d), true
	}
}

// refresh tells the environment what has been found, or taken back, in the values of lets: whatever takes steps asks for it.
func (j *judge) refresh() {
	if len(j.open) == 0 || j.known == j.turns {
		return
	}
	j.known = j.turns
	var open []int
	for _, number := range j.open {
		value := j.solved(j.locals[number].value)
		j.putLet(number, value)
		switch {
		case j.trials > 0 || j.hasHoles(value):
			open = append(open, number)
		case j.larger == 0:
			j.locals[number].value = nil
		}
	}
	j.open = open
}

// newType makes a hole for a type in that scope.
func (j *judge) newType(s scope, at int) *api.Term { return j.anyType(s, len(s), at) }

// boundBy is a term under binders of that kind, of these locals and their types.
func (j *judge) boundBy(kind int, t *api.Term, locals []int) *api.Term {
	made := j.Bound(t, locals)
	for i := len(locals) - 1; i >= 0; i-- {
		made = remake.Binder(kind, j.Bound(j.locals[locals[i]].typ, locals[:i]), made)
	}
	return made
}

// infer is the type of a node.
func (j *judge) infer(n *node, s scope) *api.Term {
	j.Spend(1)
	switch n.kind {
	case variable:
		return j.locals[s[n.number]].typ
	case universe:
		return remake.Sort(remake.Successor(n.levels[0]))
	case named:
		return j.constantType(n.name, n.levels)
	case opening:
		typ := j.newType(s, n.at)
		j.checkHole(n, typ, s)
		return typ
	case applied:
		return j.application(n, nil, s)
	case function:
		return j.functionType(n, s)
	case product:
		return remake.Sort(j.productLevel(n, s))
	case binding:
		return j.bindingType(n, s)
	}
	return j.ascription(n, s)
}

// check looks whether a node has that type.
func (j *judge) check(n *node, want remake.Opened, s scope) {
	j.Spend(1)
	switch n.kind {
	case opening:
		j.checkHole(n, j.Put(want), s)
	case applied:
		j.application(n, &want, s)
	case function:
		j.checkFunction(n, want, s)
	case binding:
		j.check(n.parts[2], want, s.with(j.let(n, s)))
	default:
		j.agree(j.infer(n, s), j.Put(want), n.at)
	}
}

// checkHole gives a hole of the text its type.
func (j *judge) checkHole(n *node, typ *api.Term, s scope) {
	h := j.terms[n.number]
	if h.typ != nil {
		j.agree(j.Filled(h.typ, j.localsOf(s)), typ, n.at)
		return
	}
	h.typ = j.Bound(typ, s)
	j.terms[n.number] = h
	if h.value == nil {
		return
	}
	if have, ok := j.typeOf(j.Filled(h.value, j.localsOf(s))); ok {
		j.agree(have, typ, n.at)
	}
}

// localsOf are the variables of a scope.
func (j *judge) localsOf(s scope) []*api.Term {
	var all []*api.Term
	for _, number := range s {
		all = append(all, j.locals[number].term)
	}
	return all
}

// checkFunction is check of a fun, and of those that it begins with: as far as the type is a pi, that tells the types of the
// variables.
func (j *judge) checkFunction(n *node, want remake.Opened, s scope) {
	for n.kind == function {
		pi, ok := j.asPi(want)
		if !ok {
			j.agree(j.infer(n, s), j.Put(want), n.at)
			return
		}
		number := j.newLocal(j.binderType(n.parts[0], j.Filled(&pi.Term.Args[0], pi.Args), s))
		s = s.with(number)
		want = pi.With(&pi.Term.Args[1], j.locals[number].term)
		n = n.parts[1]
	}
	j.check(n, want, s)
}

// binderType is the type of a binder that must be that type. Most are not written, and are just that then.
func (j *judge) binderType(n *node, typ *api.Term, s scope) *api.Term {
	if n.kind == opening && j.isNew(n.number) && !j.hasHole(typ, n.number) {
		j.fill(n.number, j.Bound(typ, s))
		return typ
	}
	j.sort(n, s)
	own := j.term(n, s)
	j.agree(own, typ, n.at)
	return own
}

// asPi is a type as a pi, as far as it is known; false: it is none.
func (j *judge) asPi(typ remake.Opened) (remake.Opened, bool) {
	if tree.Is(typ.Term, api.Pi) {
		return typ, true
	}
	form := j.whnf(j.Put(typ))
	return remake.Opened{Term: form}, tree.Is(form, api.Pi)
}

// functionType is the type of a fun, and of those that it begins with: all are bound at once.
func (j *judge) functionType(n *node, s scope) *api.Term {
	outside := len(s)
	for n.kind == function {
		j.sort(n.parts[0], s)
		s = s.with(j.newLocal(j.term(n.parts[0], s)))
		n = n.parts[1]
	}
	return j.boundBy(api.Pi, j.infer(n, s), s[outside:])
}

// productLevel is the level of the sort of a forall, and of those that it begins with.
func (j *judge) productLevel(n *node, s scope) api.Level {
	var levels []api.Level
	for n.kind == product {
		levels = append(levels, j.sort(n.parts[0], s))
		s = s.with(j.newLocal(j.term(n.parts[0], s)))
		n = n.parts[1]
	}
	return folded(levels, j.sort(n, s))
}

// folded is the level of pi whose types have these levels, the outermost first, ahead of a type of that level.
func folded(levels []api.Level, last api.Level) api.Level {
	for i := len(levels) - 1; i >= 0; i-- {
		last = api.Level{Kind: api.IMax, Args: []api.Level{levels[i], last}}
	}
	return last
}

// let looks at the type and the value of a let: its variable.
func (j *judge) let(n *node, s scope) int {
	j.sort(n.parts[0], s)
	typ := j.term(n.parts[0], s)
	j.check(n.parts[1], remake.Opened{Term: typ}, s)
	return j.newLet(typ, j.term(n.parts[1], s))
}

// bindingType is the type of a let: that of its body, with the value in the place of the variable.
func (j *judge) bindingType(n *node, s scope) *api.Term {
	number := j.let(n, s)
	typ := j.infer(n.parts[2], s.with(number))
	return j.Replaced(j.solved(typ), map[int]*api.Term{number: j.term(n.parts[1], s)})
}

// ascription looks at an expression that has its type beside it: that type.
func (j *judge) ascription(n *node, s scope) *api.Term {
	j.sort(n.parts[1], s)
	typ := j.term(n.parts[1], s)
	j.check(n.parts[0], remake.Opened{Term: typ}, s)
	return typ
}

// sort is the level of the sort that is the type of a node. FSort: it is none.
func (j *judge) sort(n *node, s scope) api.Level {
	if n.kind == opening {
		l := j.newLevel(n.at)
		j.checkHole(n, remake.Sort(l), s)
		return l
	}
	form := j.whnf(j.infer(n, s))
	if tree.Is(form, api.Sort) {
		return form.Levels[0]
	}
	if !j.mayBecome(form) {
		fault.ThrowAt(api.FSort, n.at)
	}
	l := j.newLevel(n.at)
	j.agree(form, remake.Sort(l), n.at)
	return l
}

// argument: a node, and the type that it must have.
type argument struct {
	node *node
	want remake.Opened
}

// application is the type of a function applied to arguments. The type that the whole must have, if one is told, is held against
// it ahead of the arguments' types, for the most part: it says more of the arguments than they say of it.
func (j *judge) application(n *node, want *remake.Opened, s scope) *api.Term {
	left := remake.Opened{Term: j.infer(n.parts[0], s)}
	var args []argument
	for _, part := range n.parts[1:] {
		pi, ok := j.asPi(left)
		if !ok {
			j.checkAll(args, s)
			args = nil
			pi = j.mustBePi(left, n, s)
		}
		args = append(args, argument{part, remake.Opened{Term: &pi.Term.Args[0], Args: pi.Args}})
		left = j.applied(pi, part, s)
	}
	typ := j.Put(left)
	if want == nil || j.argsFirst {
		j.checkAll(args, s)
		args = nil
	}
	if want != nil {
		j.agree(typ, j.Put(*want), n.at)
	}
	j.checkAll(args, s)
	return typ
}

// applied is what stands behind a pi whose variable stands for a node. The node's term is not made where the variable does not
// stand: in functions of functions that would be done over and over.
func (j *judge) applied(pi remake.Opened, n *node, s scope) remake.Opened {
	body := &pi.Term.Args[1]
	if j.HasVariable(body, 0) {
		return pi.With(body, j.term(n, s))
	}
	return pi.With(body, remake.Sort(api.Level{}))
}

// checkAll looks whether arguments have their types.
func (j *judge) checkAll(args []argument, s scope) {
	for _, arg := range args {
		j.check(arg.node, arg.want, s)
	}
}

// mustBePi is what is left of a function's type as a pi, of which nothing may be known yet. FFun: it is none.
func (j *judge) mustBePi(left remake.Opened, n *node, s scope) remake.Opened {
	form := j.whnf(j.Put(left))
	if tree.Is(form, api.Pi) {
		return remake.Opened{Term: form}
	}
	if !j.mayBecome(form) {
		fault.ThrowAt(api.FFun, n.at)
	}
	typ := j.newType(s, n.at)
	within := s.with(j.newLocal(typ))
	result := j.newType(within, n.at)
	pi := j.boundBy(api.Pi, result, within[len(s):])
	j.agree(form, pi, n.at)
	return remake.Opened{Term: pi}
}
