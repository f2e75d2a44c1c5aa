package prover_test

import (
	"math/rand"
	"slices"
	"strconv"

	"provekernel/api"
	"provekernel/check"
	"provekernel/kernel"
	"provekernel/reduce"
	"provekernel/term"
	"provekernel/tree"
)

// steps: how many the kernel takes at most for what is drawn.
const steps = 300

// typed: a term and its type.
type typed struct{ term, typ api.Term }

// pool draws declarations that are right, of whatever an environment knows: terms are put together as their types allow it.
type pool struct {
	*rand.Rand
	env    *reduce.Env
	params []string // of levels, of what is drawn next
	names  []string // of the constants that there are
}

// joined is a term of that kind.
func joined(kind int, parts ...api.Term) api.Term { return api.Term{Kind: kind, Args: parts} }

// newPool is one of an environment that the kernel has made.
func newPool(seed int64, env *reduce.Env) *pool {
	p := &pool{Rand: rand.New(rand.NewSource(seed)), env: env}
	for _, d := range env.Decls() {
		p.note(d)
	}
	return p
}

// note remembers the names of a declaration.
func (p *pool) note(d api.Decl) {
	p.names = append(p.names, d.Name)
	for _, c := range d.Ctors {
		p.names = append(p.names, c.Name)
	}
	if d.Kind == api.Inductive {
		p.names = append(p.names, reduce.Recursor(d.Name))
	}
}

// level draws one.
func (p *pool) level(deep int) api.Level {
	switch n := p.Intn(9); {
	case n < 3 && len(p.params) > 0:
		return api.Level{Kind: api.Param, Name: p.params[p.Intn(len(p.params))]}
	case n < 6 && deep > 0:
		return api.Level{Kind: api.Succ, Args: []api.Level{p.level(deep - 1)}}
	case n == 6 && deep > 0:
		return api.Level{Kind: []int{api.Max, api.IMax}[p.Intn(2)], Args: []api.Level{p.level(deep - 1), p.level(deep - 1)}}
	}
	return api.Level{}
}

// constant is one, with levels that are drawn.
func (p *pool) constant(name string) api.Term {
	params, _, _ := p.env.Type(name)
	t := api.Term{Kind: api.Const, Name: name}
	for range params {
		t.Levels = append(t.Levels, p.level(1))
	}
	return t
}

// infer is a term with its type; false: it has none, or the kernel tires.
func (p *pool) infer(ctx []api.Term, t api.Term) (typed, bool) {
	if tree.Parts(&t) > 300 {
		return typed{}, false
	}
	typ, err := check.Infer(p.env, p.params, ctx, t, steps)
	return typed{t, typ}, err == nil && tree.Parts(&typ) < 1500
}

// isType tells whether a term is a type.
func (p *pool) isType(t typed) bool {
	form, _, err := p.env.Whnf(t.typ, steps)
	return err == nil && form.Kind == api.Sort
}

// things are terms that are right in a context: variables, constants, and as many more that are made of these.
func (p *pool) things(ctx []api.Term, more int) []typed {
	var all []typed
	add := func(t api.Term) {
		if made, ok := p.infer(ctx, t); ok {
			all = append(all, made)
		}
	}
	for n := range ctx {
		add(api.Term{Kind: api.Var, N: n})
	}
	for range 12 {
		add(p.constant(p.names[p.Intn(len(p.names))]))
	}
	for _, name := range []string{"Nat", "zero", "succ", "add", "refl"} {
		if p.env.Known(name) {
			add(p.constant(name))
		}
	}
	add(api.Term{Kind: api.Sort, Levels: []api.Level{p.level(2)}})
	for range more {
		if t, ok := p.made(ctx, all, more); ok {
			add(t)
		}
	}
	return all
}

// made is a term that is made of others.
func (p *pool) made(ctx []api.Term, all []typed, more int) (api.Term, bool) {
	one := all[p.Intn(len(all))]
	switch n := p.Intn(12); {
	case n < 8:
		return p.applied(all)
	case n == 8:
		return p.abstracted(one.term, all[p.Intn(len(all))])
	case !p.isType(one) || more < 4:
		return api.Term{}, false
	}
	within := p.things(append(slices.Clip(ctx), one.term), more/3)
	body := within[len(within)-1-p.Intn(min(len(within), 6))]
	if p.Intn(3) == 0 && p.isType(body) {
		return joined(api.Pi, one.term, body.term), true
	}
	return joined(api.Lam, one.term, body.term), true
}

// applied is a function of these, applied to as many arguments of these as there are of its types.
func (p *pool) applied(all []typed) (api.Term, bool) {
	f := all[p.Intn(len(all))]
	made := false
	for range 1 + p.Intn(6) {
		form, _, err := p.env.Whnf(f.typ, steps)
		if err != nil || form.Kind != api.Pi {
			break
		}
		a, ok := p.ofType(all, form.Args[0])
		if !ok {
			break
		}
		f, made = typed{joined(api.App, f.term, a), term.Subst(form.Args[1], a)}, true
	}
	return f.term, made
}

// ofType is one of these that has that type.
func (p *pool) ofType(all []typed, typ api.Term) (api.Term, bool) {
	from := p.Intn(len(all))
	for i := range all {
		one := all[(from+i)%len(all)]
		if equal, err := p.env.Equal(one.typ, typ, steps); err == nil && equal {
			return one.term, true
		}
	}
	return api.Term{}, false
}

// abstracted is a term in which another one, as often as it stands there, is a variable that stands for it: by a let, or as the
// argument of a function.
func (p *pool) abstracted(t api.Term, v typed) (api.Term, bool) {
	body := p.exchanged(term.Lift(t, 1, 0), term.Lift(v.term, 1, 0), 0)
	if p.Intn(3) == 0 {
		return joined(api.App, joined(api.Lam, v.typ, body), v.term), true
	}
	return joined(api.Let, v.typ, v.term, body), true
}

// exchanged is a term with the variable of that number in most places that are the same as a part.
func (p *pool) exchanged(t, part api.Term, n int) api.Term {
	if tree.Same(&t, &part) && p.Intn(8) > 0 {
		return api.Term{Kind: api.Var, N: n}
	}
	t.Args = slices.Clone(t.Args)
	for i := range t.Args {
		within := part
		binders := tree.Binders(&t, i)
		if binders > 0 {
			within = term.Lift(part, binders, 0)
		}
		t.Args[i] = p.exchanged(t.Args[i], within, n+binders)
	}
	return t
}

// sameType is a type that is equal to another one: as it is, or what it comes to.
func (p *pool) sameType(typ api.Term) api.Term {
	form, err := typ, error(nil)
	switch p.Intn(4) {
	case 0:
		form, _, err = p.env.Normal(typ, steps)
	case 1:
		form, _, err = p.env.Whnf(typ, steps)
	}
	if err != nil {
		return typ
	}
	return form
}

// context draws types of variables, one behind the other.
func (p *pool) context(n int) []api.Term {
	var ctx []api.Term
	for range n {
		all := p.things(ctx, 6)
		one := all[p.Intn(len(all))]
		for range 20 {
			if p.isType(one) {
				break
			}
			one = all[p.Intn(len(all))]
		}
		if p.isType(one) {
			ctx = append(ctx, one.term)
		}
	}
	return ctx
}

// bound is a term behind binders of that kind.
func bound(kind int, ctx []api.Term, t api.Term) api.Term {
	for _, typ := range slices.Backward(ctx) {
		t = joined(kind, typ, t)
	}
	return t
}

// declaration draws one of that name; false: what has been drawn is not right.
func (p *pool) declaration(name string) (api.Decl, bool) {
	p.params = [][]string{nil, nil, {"u"}, {"u", "v"}, {"s"}, {"u", "r", "v"}}[p.Intn(6)]
	d := api.Decl{Name: name, Params: p.params}
	ctx := p.context(p.Intn(4))
	if p.Intn(5) == 0 {
		p.family(&d, ctx)
	} else {
		p.plain(&d, ctx)
	}
	if tree.Parts(&d.Type)+tree.Parts(&d.Value) > 3000 || kernel.Look(p.env, d, steps) != nil {
		return d, false
	}
	return d, true
}

// plain draws an axiom or a definition.
func (p *pool) plain(d *api.Decl, ctx []api.Term) {
	all := p.things(ctx, 25)
	one := all[len(all)-1-p.Intn(min(len(all), 12))]
	if p.Intn(8) == 0 {
		d.Kind, d.Type = api.Axiom, bound(api.Pi, ctx, one.term)
		return
	}
	d.Kind = api.Def
	d.Value = bound(api.Lam, ctx, one.term)
	d.Type = bound(api.Pi, ctx, p.sameType(one.typ))
}

// family draws a family with constructors.
func (p *pool) family(d *api.Decl, ctx []api.Term) {
	d.Kind, d.Arity = api.Inductive, p.Intn(len(ctx)+1)
	sort := api.Level{}
	if p.Intn(3) > 0 {
		sort = api.Level{Kind: api.Succ, Args: []api.Level{p.level(1)}}
	}
	d.Type = bound(api.Pi, ctx, api.Term{Kind: api.Sort, Levels: []api.Level{sort}})
	outer, names := p.env, p.names
	defer func() { p.env, p.names = outer, names }()
	p.env = p.env.With(api.Decl{Kind: api.Axiom, Name: d.Name, Params: d.Params, Type: d.Type})
	for i := range p.Intn(4) {
		if typ, ok := p.constructor(d, ctx); ok {
			d.Ctors = append(d.Ctors, api.Ctor{Name: d.Name + "c" + strconv.Itoa(i), Type: typ})
		}
	}
}

// constructor draws the type of one.
func (p *pool) constructor(d *api.Decl, ctx []api.Term) (api.Term, bool) {
	inner := slices.Clone(ctx[:d.Arity])
	for range p.Intn(4) {
		if typ, ok := p.argument(d, inner); ok {
			inner = append(inner, typ)
		}
	}
	result, ok := p.itself(d, inner)
	return bound(api.Pi, inner, result), ok
}

// argument draws the type of one, in which the family may stand.
func (p *pool) argument(d *api.Decl, inner []api.Term) (api.Term, bool) {
	all := p.things(inner, 4)
	one := all[p.Intn(len(all))]
	switch p.Intn(3) {
	case 0:
		return p.itself(d, inner)
	case 1:
		if p.isType(one) {
			result, ok := p.itself(d, append(slices.Clip(inner), one.term))
			return joined(api.Pi, one.term, result), ok
		}
	}
	return one.term, p.isType(one)
}

// itself is the family with its parameters, and indices that are drawn.
func (p *pool) itself(d *api.Decl, inner []api.Term) (api.Term, bool) {
	t := api.Term{Kind: api.Const, Name: d.Name}
	for _, name := range d.Params {
		t.Levels = append(t.Levels, api.Level{Kind: api.Param, Name: name})
	}
	typ := d.Type
	all := p.things(inner, 6)
	for i := 0; typ.Kind == api.Pi; i++ {
		arg, ok := api.Term{Kind: api.Var, N: len(inner) - 1 - i}, true
		if i >= d.Arity {
			arg, ok = p.ofType(all, typ.Args[0])
		}
		if !ok {
			return t, false
		}
		t, typ = joined(api.App, t, arg), term.Subst(typ.Args[1], arg)
	}
	return t, true
}

// declarations draws so many, each of which may use those ahead of it.
func (p *pool) declarations(n int) []api.Decl {
	var all []api.Decl
	for tries := 0; len(all) < n && tries < 40*n; tries++ {
		d, ok := p.declaration("d" + strconv.Itoa(len(all)))
		if !ok || kernel.Add(p.env, d, steps) != nil {
			continue
		}
		p.note(d)
		all = append(all, d)
	}
	return all
}
