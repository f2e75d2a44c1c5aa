package tactic

import (
	"slices"

	"provekernel/api"
	"provekernel/remake"
	"provekernel/tree"
)

// applied: a family with its levels and arguments.
type applied struct {
	Family
	levels []api.Level
	args   []*api.Term
}

// familyOf is a type as a family, as it stands or as what it comes to; false: it is none.
func (p *proof) familyOf(t *api.Term) (applied, bool) {
	if made, ok := p.asFamily(p.Solved(t)); ok {
		return made, true
	}
	return p.asFamily(p.Solved(p.Whnf(t)))
}

// asFamily is a term as the family that it is as it stands; false: it is none.
func (p *proof) asFamily(t *api.Term) (applied, bool) {
	head, args := remake.Spine(t)
	if head.Kind != api.Const {
		return applied{}, false
	}
	known, ok := p.FamilyOf(head.Name)
	if !ok || len(args) != known.Params+known.Indices || len(head.Levels) != known.Levels {
		return applied{}, false
	}
	return applied{known, head.Levels, args}, true
}

// split of a goal by the constructors of a variable's family.
type split struct {
	*proof
	applied
	goal    *goal
	rest    Context        // the goal's, with what hangs on the variable out of sight
	taken   map[string]int // the names that variables have
	by      []int          // the indices and the variable, that the motive is a function of
	hanging []int          // the variables that hang on these
	names   []string       // theirs
	whole   *api.Term      // the goal, with these taken into it
	motive  int            // a local in the place of the motive
}

// induction makes a goal for each constructor of a variable's family.
func (p *proof) induction(g *goal, name string, hypotheses bool) []*goal {
	place := g.find(name)
	if place < 0 {
		p.fail()
	}
	s := p.splitOf(g, g.Locals[place])
	rec := remake.Constant(s.Recursor, s.recursorLevels()...)
	rest := remake.Opened{Term: p.TypeOfConstant(rec.Name, rec.Levels)}
	for _, param := range s.args[:s.Params] {
		rest = behind(rest, param)
	}
	made := remake.Apply(rec, s.args[:s.Params]...)
	motive := s.motiveOf(p.domain(rest))
	if !p.IsRight(g.Context, motive) {
		p.fail()
	}
	s.motive = p.Variable(p.domain(rest))
	made, rest = remake.Apply(made, motive), behind(rest, remake.Local(s.motive))
	var left []*goal
	for range s.Ctors {
		c, minor := s.minor(p.domain(rest), hypotheses)
		made, rest = remake.Apply(made, minor), behind(rest, minor)
		left = append(left, c)
	}
	for _, local := range slices.Concat(s.by, s.hanging) {
		made = remake.Apply(made, remake.Local(local))
	}
	p.close(g, made)
	return left
}

// splitOf is what must be known of a variable for a goal to be split by it.
func (p *proof) splitOf(g *goal, x int) *split {
	s := &split{proof: p, goal: g}
	var ok bool
	if s.applied, ok = p.familyOf(p.TypeOf(x)); !ok {
		p.fail()
	}
	for _, index := range s.args[s.Params:] {
		local, ok := remake.LocalNumber(index)
		if !ok || slices.Contains(s.by, local) {
			p.fail()
		}
		s.by = append(s.by, local)
	}
	s.by = append(s.by, x)
	s.takeIn()
	s.whole = p.Solved(p.bound(api.Pi, p.target(g), s.hanging))
	return s
}

// takeIn looks for what hangs on the variable and its indices, or on what hangs on these: it is out of sight in the context.
func (s *split) takeIn() {
	s.rest = Context{slices.Clone(s.goal.Names), slices.Clip(s.goal.Locals)}
	s.taken = map[string]int{}
	moved := map[int]int{}
	for i, local := range s.by {
		moved[local] = i
	}
	for i, local := range s.goal.Locals {
		s.taken[s.goal.Names[i]]++
		hangs := s.Work().HasLocal(s.Solved(s.TypeOf(local)), func(number int) bool {
			_, ok := moved[number]
			return ok
		})
		if _, itself := moved[local]; hangs && !itself {
			moved[local] = i
			s.hanging, s.names = append(s.hanging, local), append(s.names, s.goal.Names[i])
			s.rest.Names[i] = ""
		}
	}
}

// recursorLevels are those of the recursor. One that makes proofs alone has just the family's.
func (s *split) recursorLevels() []api.Level {
	l, ok := s.LevelOf(s.whole)
	if !ok {
		s.fail()
	}
	if s.RecursorLevels > s.Levels {
		return append([]api.Level{l}, s.levels...)
	}
	if !s.Fits(remake.Sort(l), remake.Sort(api.Level{}), s.at) {
		s.fail()
	}
	return s.levels
}

// motiveOf is the motive, of its type: the whole goal, as a function of the indices and the variable.
func (s *split) motiveOf(typ *api.Term) *api.Term {
	var locals []int
	var args []*api.Term
	rest := remake.Opened{Term: typ}
	for range s.by {
		local := s.Variable(s.domain(rest))
		locals, args = append(locals, local), append(args, remake.Local(local))
		rest = behind(rest, remake.Local(local))
	}
	return s.bound(api.Lam, s.Work().Replaced(s.whole, s.standing(args)), locals)
}

// standing is what stands in the place of the indices and the variable.
func (s *split) standing(args []*api.Term) map[int]*api.Term {
	by := map[int]*api.Term{}
	for i, local := range s.by {
		by[local] = args[i]
	}
	return by
}

// minor is the goal of a constructor, of the type of its minor; and what stands in the proof as that.
func (s *split) minor(typ *api.Term, hypotheses bool) (*goal, *api.Term) {
	n := &namer{taken: s.taken, own: map[string]int{}}
	var locals []int
	places := 0
	rest := remake.Opened{Term: typ}
	for tree.Is(rest.Term, api.Pi) {
		domain := s.domain(rest)
		switch {
		case !s.isHypothesis(domain):
			n.add(letter(places))
			places++
		case hypotheses:
			n.add("ih")
			domain = s.hypothesis(domain)
		default:
			n.names = append(n.names, "")
			domain = s.hypothesis(domain)
		}
		local := s.Variable(domain)
		locals = append(locals, local)
		rest = behind(rest, remake.Local(local))
	}
	_, args := remake.Spine(s.Work().Put(rest))
	by := s.standing(args)
	for _, old := range s.hanging {
		local := s.Variable(s.Work().Replaced(s.Solved(s.TypeOf(old)), by))
		by[old] = remake.Local(local)
		locals = append(locals, local)
	}
	target := s.Work().Replaced(s.target(s.goal), by)
	s.Work().Spend(roomOfVariable * len(s.rest.Names))
	return s.child(s.goal, s.rest.clipped().with(slices.Concat(n.names, s.names), locals), target)
}

// roomOfVariable: how much more a variable of a context that is kept with a goal counts than a part of a term that is looked at.
const roomOfVariable = 4

// isHypothesis tells whether the type of a minor's argument is that of a hypothesis: behind its pi the motive is applied.
func (s *split) isHypothesis(t *api.Term) bool {
	for tree.Is(t, api.Pi) {
		t = &t.Args[1]
	}
	number, ok := remake.LocalNumber(remake.HeadOf(t))
	return ok && number == s.motive
}

// hypothesis is its type with the whole goal, as the motive makes it, in the place of the motive.
func (s *split) hypothesis(t *api.Term) *api.Term {
	var locals []int
	rest := remake.Opened{Term: t}
	for tree.Is(rest.Term, api.Pi) {
		local := s.Variable(s.domain(rest))
		locals = append(locals, local)
		rest = behind(rest, remake.Local(local))
	}
	_, args := remake.Spine(s.Work().Put(rest))
	return s.bound(api.Pi, s.Work().Replaced(s.whole, s.standing(args)), locals)
}
