package check

import (
	"slices"
	"strings"

	"provekernel/api"
	"provekernel/fault"
	"provekernel/level"
	"provekernel/reduce"
	"provekernel/tree"
)

// mostVisits: how many terms within a term one call looks at. Each is looked at once: a text has far fewer.
const mostVisits = 1 << 18

// judge finds types. It throws the first fault that it meets.
type judge struct {
	env    *reduce.Env
	params []string
	fuel   int
	visits int
	consts map[written]formed // types of constants that have been found
	forms  remembered         // types, and their weak head normal forms
	equals remembered         // types that are equal
}

// written: a constant's name, its levels' text.
type written struct{ name, levels string }

// ranked: a level, and how many parts it has.
type ranked struct {
	level api.Level
	parts int
}

func newJudge(e *reduce.Env, params []string, fuel int) *judge {
	return &judge{env: e, params: params, fuel: fuel, consts: map[written]formed{}}
}

// visit counts a term that is looked at.
func (j *judge) visit() {
	j.visits++
	if j.visits > mostVisits {
		fault.Throw(api.FTired)
	}
}

// infer is a term's type.
func (j *judge) infer(t *api.Term, s *scope) formed {
	j.visit()
	switch {
	case tree.Is(t, api.Var):
		return variableType(t, s)
	case tree.Is(t, api.Sort):
		return j.universe(t)
	case tree.Is(t, api.Const):
		return j.constant(t)
	case tree.Is(t, api.App):
		return j.application(t, s)
	case tree.Is(t, api.Lam):
		return j.function(t, s)
	case tree.Is(t, api.Pi):
		return j.product(t, s)
	case tree.Is(t, api.Let):
		return j.binding(t, s)
	}
	fault.Throw(api.FText) // it is no term: nothing is said of it
	return formed{}
}

// variableType is a variable's type. That it must be lifted over what stands behind it locals take care of.
func variableType(t *api.Term, s *scope) formed {
	at := s.find(t.N)
	if at == nil {
		fault.Throw(api.FVar)
	}
	return at.typ.formed()
}

// universe is the type of a sort.
func (j *judge) universe(t *api.Term) formed {
	parts := measured(t).parts
	j.look(t.Levels)
	return sortOf(ranked{api.Level{Kind: api.Succ, Args: t.Levels}, parts})
}

// sortOf is the sort of a level.
func sortOf(l ranked) formed {
	return form(api.Term{Kind: api.Sort, Levels: []api.Level{l.level}}, l.parts+1)
}

// look throws FParam, if a parameter of the levels is none of those that there are.
func (j *judge) look(ls []api.Level) {
	for _, l := range ls {
		for _, name := range level.Params(l) {
			if !slices.Contains(j.params, name) {
				fault.Throw(api.FParam)
			}
		}
	}
}

// constant is a constant's type with its levels.
func (j *judge) constant(t *api.Term) formed {
	key := written{t.Name, levelsText(t.Levels)}
	if found, ok := j.consts[key]; ok {
		return found
	}
	params, typ, ok := j.env.Type(t.Name)
	if !ok {
		fault.Throw(api.FName)
	}
	if len(t.Levels) != len(params) {
		fault.Throw(api.FLevels)
	}
	j.look(t.Levels)
	r := &rewriting{put: stays, params: params, levels: t.Levels}
	made := r.made(&typ)
	j.consts[key] = made
	return made
}

// levelsText is the text of levels, one behind the other.
func levelsText(ls []api.Level) string {
	var texts []string
	for _, l := range ls {
		texts = append(texts, level.Print(l))
	}
	return strings.Join(texts, " ")
}

// application is the type of a function, that is no application itself, applied to its arguments, one by one.
func (j *judge) application(t *api.Term, s *scope) formed {
	var args []*api.Term
	for ; tree.Is(t, api.App); t = &t.Args[0] {
		j.visit()
		args = append(args, &t.Args[1])
	}
	left := arrow{typ: j.infer(t, s).term}
	for _, arg := range slices.Backward(args) {
		left = j.asPi(left)
		j.match(j.infer(arg, s), left.put(&left.typ.Args[0]))
		left = arrow{left.typ.Args[1], append(left.args, s.enclose(arg))}
	}
	return left.put(&left.typ)
}

// asPi is what is left of a function's type as a pi. FFun: it comes to none.
func (j *judge) asPi(left arrow) arrow {
	if tree.Is(&left.typ, api.Pi) {
		return left
	}
	left = arrow{typ: j.whnf(left.put(&left.typ)).term}
	if !tree.Is(&left.typ, api.Pi) {
		fault.Throw(api.FFun)
	}
	return left
}

// function is the type of a lam, and of those that it begins with: all are bound at once.
func (j *judge) function(t *api.Term, s *scope) formed {
	first := s.count()
	var domains []formed
	for ; tree.Is(t, api.Lam); t = &t.Args[1] {
		j.visit()
		j.sort(&t.Args[0], s)
		domain := s.enclose(&t.Args[0])
		domains = append(domains, domain.formed())
		s = s.with(domain)
	}
	return products(domains, j.infer(t, s), first)
}

// product is the type of a pi.
func (j *judge) product(t *api.Term, s *scope) formed {
	l := j.sort(&t.Args[0], s)
	m := j.sort(&t.Args[1], s.with(s.enclose(&t.Args[0])))
	return sortOf(ranked{api.Level{Kind: api.IMax, Args: []api.Level{l.level, m.level}}, 1 + l.parts + m.parts})
}

// binding is the type of a let.
func (j *judge) binding(t *api.Term, s *scope) formed {
	j.sort(&t.Args[0], s)
	typ := j.infer(&t.Args[1], s)
	j.match(typ, s.enclose(&t.Args[0]).formed())
	return j.infer(&t.Args[2], s.withLet(s.enclose(&t.Args[1]), typ))
}

// sort is the level of the sort that a term's type comes to. FSort: it comes to none.
func (j *judge) sort(t *api.Term, s *scope) ranked {
	typ := j.whnf(j.infer(t, s))
	if !tree.Is(&typ.term, api.Sort) {
		fault.Throw(api.FSort)
	}
	return ranked{typ.term.Levels[0], typ.parts - 1}
}

// whnf is the weak head normal form of a type. Most have it already.
func (j *judge) whnf(t formed) formed {
	switch t.term.Kind {
	case api.Var, api.Sort, api.Lam, api.Pi:
		return t
	}
	known := j.forms.find(func(from, _ *api.Term) bool { return tree.Same(from, &t.term) })
	if known != nil {
		return measured(&known[1])
	}
	made, _, err := j.env.Whnf(t.term, j.fuel)
	fault.Pass(err)
	j.forms.add(t.term, made)
	return measured(&made)
}

// match throws FArg, if a type is not equal to the one that is asked for.
func (j *judge) match(typ, asked formed) {
	known := j.equals.find(func(a, b *api.Term) bool { return tree.Same(a, &typ.term) && tree.Same(b, &asked.term) })
	if known != nil {
		return
	}
	equal, err := j.env.Equal(typ.term, asked.term, j.fuel)
	fault.Pass(err)
	if !equal {
		fault.Throw(api.FArg)
	}
	j.equals.add(typ.term, asked.term)
}
