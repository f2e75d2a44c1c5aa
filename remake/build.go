package remake

import (
	"slices"

	"provekernel/api"
	"provekernel/level"
	"provekernel/tree"
)

// Variable is the one of that number.
func Variable(n int) *api.Term { return &api.Term{Kind: api.Var, N: n} }

// Spine takes (..(f a1) .. an) apart into f, that is no application, and a1, .., an.
func Spine(t *api.Term) (*api.Term, []*api.Term) {
	var args []*api.Term
	for ; tree.Is(t, api.App); t = &t.Args[0] {
		args = append(args, &t.Args[1])
	}
	slices.Reverse(args)
	return t, args
}

// PartsOf are the parts of a term.
func PartsOf(t *api.Term) []*api.Term {
	var parts []*api.Term
	for i := range t.Args {
		parts = append(parts, &t.Args[i])
	}
	return parts
}

// HeadOf is the f of (..(f a1) .. an).
func HeadOf(t *api.Term) *api.Term {
	for tree.Is(t, api.App) {
		t = &t.Args[0]
	}
	return t
}

// Apply is (..(f a1) .. an) of f and a1, .., an.
func Apply(f *api.Term, args ...*api.Term) *api.Term {
	for _, arg := range args {
		f = &api.Term{Kind: api.App, Args: []api.Term{*f, *arg}}
	}
	return f
}

// Constant is the one of that name, with these levels.
func Constant(name string, levels ...api.Level) *api.Term {
	return &api.Term{Kind: api.Const, Name: name, Levels: levels}
}

// Binder is a lam, a pi of that type and body.
func Binder(kind int, typ, body *api.Term) *api.Term {
	return &api.Term{Kind: kind, Args: []api.Term{*typ, *body}}
}

// Sort is the one of a level.
func Sort(l api.Level) *api.Term { return &api.Term{Kind: api.Sort, Levels: []api.Level{l}} }

// Successor of a level.
func Successor(l api.Level) api.Level { return api.Level{Kind: api.Succ, Args: []api.Level{l}} }

// CopiedLevels share nothing with the levels: what is handed in is not kept.
func CopiedLevels(ls []api.Level) []api.Level {
	var made []api.Level
	for _, l := range ls {
		made = append(made, level.Subst(l, nil, nil))
	}
	return made
}
