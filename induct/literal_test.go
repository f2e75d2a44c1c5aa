package induct

import (
	"slices"
	"strconv"
	"testing"

	"provekernel/api"
	"provekernel/check"
	"provekernel/level"
	"provekernel/reduce"
	"provekernel/term"
	"provekernel/tree"
)

// literal looks a family over by the chapter's words: each sort is asked for by itself, in its context, and in the recursor's
// type names stand for variables until these are bound. It is what Decl is held against.
type literal struct {
	env, with *reduce.Env // as it is; with the family as an axiom
	fuel      int
	d         api.Decl
	m         int // how many indices
	l         api.Level
	sorts     [][]api.Level // of each constructor's arguments' types
}

// wrong is thrown with a fault's code.
type wrong int

// toldLiterally is what the chapter's words say of a family.
func toldLiterally(env *reduce.Env, d api.Decl, fuel int) (said string) {
	defer func() {
		if thrown := recover(); thrown != nil {
			said = codeText(int(thrown.(wrong)))
		}
	}()
	l := &literal{env: env, d: d, fuel: fuel}
	l.lookFamily()
	for _, c := range d.Ctors {
		l.lookCtor(c)
	}
	return recursorText(l.recursor())
}

// must throws a fault, if what must hold does not.
func must(holds bool, code int) {
	if !holds {
		panic(wrong(code))
	}
}

func (l *literal) sort(e *reduce.Env, ctx []api.Term, t api.Term) api.Level {
	found, err := check.Sort(e, l.d.Params, ctx, t, l.fuel)
	if code, _ := api.Code(err); err != nil {
		panic(wrong(code))
	}
	return found
}

// worths are what a level is worth under some numbers for its parameters.
func worths(l api.Level) []int {
	params := level.Params(l)
	ns := make([]int, len(params))
	var found []int
	for {
		found = append(found, level.Worth(l, params, ns))
		at := slices.IndexFunc(ns, func(n int) bool { return n < 2 })
		if at < 0 {
			return found
		}
		ns[at]++
		clear(ns[:at])
	}
}

func isZero(n int) bool { return n == 0 }

func always(l api.Level) bool {
	return !slices.ContainsFunc(worths(l), func(n int) bool { return n != 0 })
}

func (l *literal) lookFamily() {
	names := []string{l.d.Name}
	for _, c := range l.d.Ctors {
		names = append(names, c.Name)
	}
	names = append(names, l.d.Name+".rec")
	for i, name := range names {
		must(!l.env.Known(name) && !slices.Contains(names[:i], name), api.FTwice)
	}
	for i, u := range l.d.Params {
		must(i < 6 && !slices.Contains(l.d.Params[:i], u), api.FParam)
	}
	l.sort(l.env, nil, l.d.Type)
	t, pis := l.d.Type, 0
	for ; t.Kind == api.Pi; pis++ {
		t = t.Args[1]
	}
	must(pis >= l.d.Arity && t.Kind == api.Sort && len(l.d.Name) <= 36, api.FForm)
	l.m, l.l = pis-l.d.Arity, t.Levels[0]
	must(always(l.l) || !slices.ContainsFunc(worths(l.l), isZero), api.FForm)
	l.with = reduce.New()
	for _, d := range l.env.Decls() {
		params, typ, _ := l.env.Type(d.Name + ".rec")
		l.with.Put(d, params, typ)
	}
	l.with.Put(api.Decl{Kind: api.Axiom, Name: l.d.Name, Params: l.d.Params, Type: l.d.Type}, nil, api.Term{})
}

func (l *literal) lookCtor(c api.Ctor) {
	l.sort(l.with, nil, c.Type)
	t, family := c.Type, l.d.Type
	var ctx []api.Term
	for range l.d.Arity {
		must(t.Kind == api.Pi, api.FForm)
		t = t.Args[1]
	}
	for t = c.Type; len(ctx) < l.d.Arity; t, family = t.Args[1], family.Args[1] {
		equal, err := l.with.Equal(t.Args[0], family.Args[0], l.fuel)
		must(err == nil, api.FTired)
		must(equal, api.FForm)
		ctx = append(ctx, t.Args[0])
	}
	args := t
	n := 0
	for ; t.Kind == api.Pi; n++ {
		t = t.Args[1]
	}
	must(l.isApplied(t, n), api.FForm)
	var sorts []api.Level
	for i, t := 0, args; i < n; i, t = i+1, t.Args[1] {
		typ := t.Args[0]
		must(!term.Has(typ, l.d.Name) || l.isRecursive(typ, i), api.FPos)
		sort := l.sort(l.with, ctx, typ)
		must(always(l.l) || level.Leq(sort, l.l), api.FLevel)
		sorts = append(sorts, sort)
		ctx = append(ctx, typ)
	}
	l.sorts = append(l.sorts, sorts)
}

// isApplied: the family, with its levels, applied to its parameters, which have n variables behind them, and to indices.
func (l *literal) isApplied(t api.Term, n int) bool {
	for i := l.d.Arity + l.m - 1; i >= 0; i-- {
		if t.Kind != api.App {
			return false
		}
		arg := t.Args[1]
		if i >= l.d.Arity && term.Has(arg, l.d.Name) || i < l.d.Arity && (arg.Kind != api.Var || arg.N != n+l.d.Arity-1-i) {
			return false
		}
		t = t.Args[0]
	}
	return term.Print(t) == term.Print(l.constant(l.d.Name))
}

func (l *literal) isRecursive(t api.Term, n int) bool {
	for ; t.Kind == api.Pi; t, n = t.Args[1], n+1 {
		if term.Has(t.Args[0], l.d.Name) {
			return false
		}
	}
	return l.isApplied(t, n)
}

func (l *literal) constant(name string) api.Term {
	made := api.Term{Kind: api.Const, Name: name}
	for _, u := range l.d.Params {
		made.Levels = append(made.Levels, api.Level{Kind: api.Param, Name: u})
	}
	return made
}

// named: variables that have names, as constants that nothing else has; with their types.
type named struct {
	vs, types []api.Term
}

// opened takes at most n pi off a type, with names in the place of the variables.
func opened(t api.Term, prefix string, n int) (named, api.Term) {
	var ns named
	for ; t.Kind == api.Pi && len(ns.vs) < n; t = term.Subst(t.Args[1], ns.vs[len(ns.vs)-1]) {
		ns = ns.and(prefix+strconv.Itoa(len(ns.vs)), t.Args[0])
	}
	return ns, t
}

func (ns named) and(name string, typ api.Term) named {
	return named{append(slices.Clone(ns.vs), api.Term{Kind: api.Const, Name: "$" + name}), append(slices.Clone(ns.types), typ)}
}

// pis binds the names.
func (ns named) pis(body api.Term) api.Term {
	for i := len(ns.vs) - 1; i >= 0; i-- {
		body = api.Term{Kind: api.Pi, Args: []api.Term{ns.types[i], bound(term.Lift(body, 1, 0), ns.vs[i].Name, 0)}}
	}
	return body
}

// bound is a term with a variable in the place of a name.
func bound(t api.Term, name string, depth int) api.Term {
	if t.Kind == api.Const && t.Name == name {
		return tree.Variable(depth)
	}
	t.Args = slices.Clone(t.Args)
	for i, arg := range t.Args {
		t.Args[i] = bound(arg, name, depth+tree.Binders(&t, i))
	}
	return t
}

func (l *literal) recursor() ([]string, api.Term) {
	params, s := slices.Clone(l.d.Params), api.Level{}
	if l.isLarge() {
		s = api.Level{Kind: api.Param, Name: "r"}
		for i := 1; slices.Contains(params, s.Name); i++ {
			s.Name = "r" + strconv.Itoa(i)
		}
		params = slices.Insert(params, 0, s.Name)
	}
	ps, rest := opened(l.d.Type, "p", l.d.Arity)
	is, _ := opened(rest, "i", l.m)
	whole := term.Apply(l.constant(l.d.Name), slices.Concat(ps.vs, is.vs))
	all := ps.and("motive", is.pis(api.Term{Kind: api.Pi, Args: []api.Term{whole, {Kind: api.Sort, Levels: []api.Level{s}}}}))
	motive := all.vs[l.d.Arity]
	for i, c := range l.d.Ctors {
		all = all.and("minor"+strconv.Itoa(i), l.minor(c, ps, motive))
	}
	all = named{slices.Concat(all.vs, is.vs), slices.Concat(all.types, is.types)}.and("major", whole)
	return params, all.pis(term.Apply(motive, append(slices.Clone(is.vs), all.vs[len(all.vs)-1])))
}

func (l *literal) minor(c api.Ctor, ps named, motive api.Term) api.Term {
	typ := c.Type
	for _, p := range ps.vs {
		typ = term.Subst(typ.Args[1], p)
	}
	all, result := opened(typ, "a", 1000)
	args := all.vs
	for i, arg := range args {
		if !term.Has(all.types[i], l.d.Name) {
			continue
		}
		xs, result := opened(all.types[i], "x", 1000)
		_, as := term.Spine(result)
		all = all.and("h"+strconv.Itoa(i), xs.pis(term.Apply(motive, append(as[l.d.Arity:], term.Apply(arg, xs.vs)))))
	}
	_, as := term.Spine(result)
	made := term.Apply(l.constant(c.Name), slices.Concat(ps.vs, args))
	return all.pis(term.Apply(motive, append(as[l.d.Arity:], made)))
}

func (l *literal) isLarge() bool {
	if !always(l.l) || len(l.d.Ctors) == 0 {
		return true
	}
	if len(l.d.Ctors) > 1 {
		return false
	}
	_, rest := opened(l.d.Ctors[0].Type, "p", l.d.Arity)
	args, result := opened(rest, "a", 1000)
	_, as := term.Spine(result)
	for i, sort := range l.sorts[0] {
		if !always(sort) && !slices.ContainsFunc(as[l.d.Arity:], func(index api.Term) bool { return index.Name == args.vs[i].Name }) {
			return false
		}
	}
	return true
}

// Families made by chance, right ones and spoiled ones, with much and with little fuel: what is told is what the chapter's
// words say; and what is right takes its steps.
func TestDeclAsTheChapterSays(t *testing.T) {
	e := world(t)
	counts := map[string]int{}
	for seed := range int64(8000) {
		m := newMaker(seed)
		d := m.family()
		for m.Intn(3) == 0 {
			m.spoil(&d)
		}
		fuel := []int{1000, 1000, 1000, 10, 3, 2, 1, 0}[m.Intn(8)]
		want := toldLiterally(e, d, fuel)
		if got := told(t, e, d, fuel); got != want {
			t.Fatalf("seed %d: Decl(%s), fuel %d = %s, want %s", seed, declText(d), fuel, got, want)
		}
		if want[0] == 'F' {
			counts[want]++
			continue
		}
		counts[right]++
		if want[0] == ':' {
			counts["small"]++
		}
		if seed%4 == 0 {
			takesItsSteps(t, e, d)
		}
	}
	t.Log(counts)
	for what, least := range map[string]int{
		right: 2000, "small": 200, "FTwice": 20, "FParam": 20, "FName": 20, "FLevels": 20, "FVar": 20, "FFun": 20, "FArg": 20, "FSort": 20, "FForm": 100, "FPos": 100, "FLevel": 100, "FTired": 100,
	} {
		if counts[what] < least {
			t.Errorf("%s has been told only %d times", what, counts[what])
		}
	}
}
