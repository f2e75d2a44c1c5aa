package derive

import (
	"slices"
	"strconv"
	"testing"

	"provekernel/api"
	"provekernel/check"
	"provekernel/level"
	"provekernel/reduce"
	"provekernel/term"
	"provekernel/tree"
)

// looker looks derivations over by the words of the chapter.
type looker struct {
	env    *reduce.Env
	params []string
}

// muchFuel: what the tests' own questions have.
const muchFuel = 100000

// ruleNames, by number.
var ruleNames = [...]string{api.RVar: "RVar", api.RSort: "RSort", api.RConst: "RConst", api.RPi: "RPi", api.RLam: "RLam", api.RApp: "RApp", api.RLet: "RLet"}

// ruleKinds: the kind of term that a rule derives.
var ruleKinds = [...]int{api.RVar: api.Var, api.RSort: api.Sort, api.RConst: api.Const, api.RPi: api.Pi, api.RLam: api.Lam, api.RApp: api.App, api.RLet: api.Let}

// judged: a term in a context.
type judged struct {
	ctx  []api.Term
	term api.Term
}

// same: the same as they are written, levels Same.
func same(a, b api.Term) bool { return tree.Same(&a, &b) || term.Equal(a, b) }

func (j judged) same(s api.Step) bool {
	return slices.EqualFunc(j.ctx, s.Ctx, same) && same(j.term, s.Term)
}

// premises: what a rule asks for in a step, in the order of its words.
func premises(s api.Step) []judged {
	switch s.Rule {
	case api.RPi, api.RLam:
		return []judged{{s.Ctx, s.Term.Args[0]}, {slices.Concat(s.Ctx, s.Term.Args[:1]), s.Term.Args[1]}}
	case api.RApp:
		return []judged{{s.Ctx, s.Term.Args[0]}, {s.Ctx, s.Term.Args[1]}}
	case api.RLet:
		return []judged{{s.Ctx, s.Term.Args[0]}, {s.Ctx, s.Term.Args[1]}, {s.Ctx, term.Subst(s.Term.Args[2], s.Term.Args[1])}}
	}
	return nil
}

// wrong: why a step is no instance of its rule; "": it is one.
func (l looker) wrong(ss []api.Step, i int) string {
	s := ss[i]
	if s.Rule < api.RVar || s.Rule > api.RLet || s.Term.Kind != ruleKinds[s.Rule] {
		return "there is no such rule for this kind of term"
	}
	asked := premises(s)
	if len(s.Prems) != len(asked) {
		return "it stands on " + strconv.Itoa(len(s.Prems)) + " steps"
	}
	var types []api.Term
	for n, at := range s.Prems {
		if at < 0 || at >= i {
			return "it stands on one that is not ahead of it"
		}
		if !asked[n].same(ss[at]) {
			return "its premise " + strconv.Itoa(n) + " is another one"
		}
		types = append(types, ss[at].Type)
	}
	typ, ok := l.derived(s, types)
	if !ok {
		return "its premises do not allow it"
	}
	if !same(s.Type, typ) {
		return "it derives " + term.Print(typ)
	}
	return ""
}

// derived: the type that a step's rule derives from premises of these types; false: it derives none.
func (l looker) derived(s api.Step, types []api.Term) (api.Term, bool) {
	switch s.Rule {
	case api.RVar:
		n := s.Term.N
		if n < 0 || n >= len(s.Ctx) {
			return api.Term{}, false
		}
		return term.Lift(s.Ctx[len(s.Ctx)-1-n], n+1, 0), true
	case api.RSort:
		return sort(succ(s.Term.Levels[0])), l.declared(s.Term.Levels)
	case api.RConst:
		params, typ, ok := l.env.Type(s.Term.Name)
		if !ok || len(params) != len(s.Term.Levels) {
			return api.Term{}, false
		}
		return term.Levels(typ, params, s.Term.Levels), l.declared(s.Term.Levels)
	case api.RPi:
		first, ok1 := l.comes(types[0], api.Sort)
		last, ok2 := l.comes(types[1], api.Sort)
		if !ok1 || !ok2 {
			return api.Term{}, false
		}
		return sort(api.Level{Kind: api.IMax, Args: []api.Level{first.Levels[0], last.Levels[0]}}), true
	case api.RLam:
		_, ok := l.comes(types[0], api.Sort)
		return joined(api.Pi, s.Term.Args[0], types[1]), ok
	case api.RApp:
		pi, ok := l.comes(types[0], api.Pi)
		if !ok || !l.equal(types[1], pi.Args[0]) {
			return api.Term{}, false
		}
		return term.Subst(pi.Args[1], s.Term.Args[1]), true
	}
	_, ok := l.comes(types[0], api.Sort)
	return types[2], ok && l.equal(types[1], s.Term.Args[0])
}

// declared: all parameters are among those that there are.
func (l looker) declared(ls []api.Level) bool {
	for _, a := range ls {
		for _, name := range level.Params(a) {
			if !slices.Contains(l.params, name) {
				return false
			}
		}
	}
	return true
}

// comes: what a type comes to, and whether it is of that kind.
func (l looker) comes(typ api.Term, kind int) (api.Term, bool) {
	form, _, err := l.env.Whnf(typ, muchFuel)
	return form, err == nil && form.Kind == kind
}

func (l looker) equal(a, b api.Term) bool {
	equal, err := l.env.Equal(a, b, muchFuel)
	return equal && err == nil
}

// mostLooked: how many steps of a derivation are looked over, of a longer one some here and there: to look at a step of a large
// term takes as long as the term is large.
const mostLooked = 3000

// refuses: why steps are no derivation of a term of that type in no context; "": they are one.
func (l looker) refuses(ss []api.Step, made, typ api.Term) string {
	apart := 1
	if len(ss) > mostLooked {
		apart = len(ss) / 150
	}
	for i, s := range ss {
		if slices.ContainsFunc(s.Prems, func(at int) bool { return at < 0 || at >= i }) {
			return "step " + strconv.Itoa(i) + " stands on one that is not ahead of it"
		}
		if (len(ss)-1-i)%apart > 0 {
			continue
		}
		if why := l.wrong(ss, i); why != "" {
			return "step " + strconv.Itoa(i) + ": " + why
		}
	}
	if len(ss) == 0 {
		return "there are no steps"
	}
	last := ss[len(ss)-1]
	if len(last.Ctx) != 0 || !tree.Same(&last.Term, &made) || !tree.Same(&last.Type, &typ) {
		return "the last step derives another term, or of another type, or in a context"
	}
	return ""
}

// of is what Of says of a term, as check.Infer does; if there are steps, they are looked over.
func (l looker) of(t testing.TB, made api.Term, fuel int) ([]api.Step, string) {
	t.Helper()
	ss, err := Of(l.env, l.params, made, fuel)
	typ, inferErr := check.Infer(l.env, l.params, nil, made, fuel)
	got, want := said(err), said(inferErr)
	if got != want {
		t.Errorf("Of(%.200s) with fuel %d: %s, check.Infer: %s", term.Print(made), fuel, got, want)
		return ss, got
	}
	if err != nil {
		if ss != nil {
			t.Errorf("Of(%.200s): %s, with %d steps", term.Print(made), got, len(ss))
		}
		return nil, got
	}
	if why := l.refuses(ss, made, typ); why != "" {
		t.Errorf("Of(%.200s) with fuel %d: %.400s", term.Print(made), fuel, why)
	}
	return ss, got
}

// derives: a term's text has a derivation.
func (l looker) derives(t testing.TB, text string) []api.Step {
	t.Helper()
	ss, got := l.of(t, parsed(t, text), muchFuel)
	if got != right {
		t.Errorf("Of(%s): %s", text, got)
	}
	return ss
}

// A derivation with something else in one place is none: the tests would see it.
func TestLookerRefuses(t *testing.T) {
	l := looker{world(t), levelNames}
	made := parsed(t, "(lam (const N) (let (pi (sort u) (sort u)) (lam (sort u) #0) (app (const add) (app (const g) #1))))")
	typ, err := check.Infer(l.env, l.params, nil, made, muchFuel)
	if err != nil {
		t.Fatal(said(err))
	}
	steps := func() []api.Step {
		ss, err := Of(l.env, l.params, made, muchFuel)
		if err != nil {
			t.Fatal(said(err))
		}
		return ss
	}
	if why := l.refuses(steps(), made, typ); why != "" {
		t.Fatalf("the derivation itself: %s", why)
	}
	spoilers := map[string]func(s *api.Step){
		"another rule":        func(s *api.Step) { s.Rule = s.Rule%7 + 1 },
		"no rule":             func(s *api.Step) { s.Rule = 0 },
		"a rule beyond":       func(s *api.Step) { s.Rule = 8 },
		"a longer context":    func(s *api.Step) { s.Ctx = slices.Concat(s.Ctx, []api.Term{named("Nat")}) },
		"another context":     func(s *api.Step) { s.Ctx = slices.Concat([]api.Term{named("Bool")}, s.Ctx) },
		"another term":        func(s *api.Step) { s.Term = named("false") },
		"another type":        func(s *api.Step) { s.Type = named("Bool") },
		"a type that is let":  func(s *api.Step) { s.Type = joined(api.Let, named("Nat"), named("zero"), term.Lift(s.Type, 1, 0)) },
		"one premise more":    func(s *api.Step) { s.Prems = append(slices.Clone(s.Prems), 0) },
		"a premise below all": func(s *api.Step) { s.Prems = append(slices.Clone(s.Prems), -1)[1:] },
		"itself as a premise": func(s *api.Step) { s.Prems = append(slices.Clone(s.Prems), len(steps())-1)[1:] },
	}
	for what, spoil := range spoilers {
		for i := range steps() {
			ss := steps()
			if len(ss[i].Prems) == 0 && (what == "a premise below all" || what == "itself as a premise") {
				continue
			}
			spoil(&ss[i])
			if l.refuses(ss, made, typ) == "" {
				t.Errorf("step %d with %s is not refused", i, what)
			}
		}
	}
	for i, s := range steps() {
		ss := steps()
		if len(s.Prems) > 1 {
			slices.Reverse(ss[i].Prems)
			if l.refuses(ss, made, typ) == "" {
				t.Errorf("step %d with its premises the other way is not refused", i)
			}
		}
		if l.refuses(steps()[:i], made, typ) == "" {
			t.Errorf("the first %d steps are not refused", i)
		}
	}
	if (looker{l.env, []string{"v"}}).refuses(steps(), made, typ) == "" {
		t.Errorf("a parameter that is not there is not refused")
	}
}
