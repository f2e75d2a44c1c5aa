// Package tree: what the layers of the core know of terms as trees.
package tree

import (
	"slices"

	"provekernel/api"
)

// MostParts: how many parts a term that is formed may have. The document promises nothing beyond 20000; there is some room
// beyond that, so that nothing hangs on how parts are counted.
const MostParts = 60000

// partCounts: how many parts a term has, by kind.
var partCounts = [...]int{api.Var: 0, api.App: 2, api.Lam: 2, api.Pi: 2, api.Let: 3}

// levelCounts: how many levels a term has, by kind. (Of a constant any number is right.)
var levelCounts = [...]int{api.Sort: 1, api.Let: 0}

// Is tells whether a term is of that kind, with all its parts: what is not well formed must not make a call panic.
func Is(t *api.Term, kind int) bool {
	return t.Kind == kind && len(t.Args) == partCounts[kind] && (kind == api.Const || len(t.Levels) == levelCounts[kind])
}

// Variable is the one of that number.
func Variable(n int) api.Term { return api.Term{Kind: api.Var, N: n} }

// Binders tells how many variables a term binds in its part i.
func Binders(t *api.Term, i int) int {
	switch t.Kind {
	case api.Lam, api.Pi, api.Let:
		if i == len(t.Args)-1 {
			return 1
		}
	}
	return 0
}

// Same tells whether two terms are the same, as they are written.
func Same(a, b *api.Term) bool {
	if a.Kind != b.Kind || a.N != b.N || a.Name != b.Name || len(a.Args) != len(b.Args) {
		return false
	}
	if !slices.EqualFunc(a.Levels, b.Levels, SameLevel) {
		return false
	}
	if len(a.Args) > 0 && &a.Args[0] == &b.Args[0] {
		return true
	}
	for i := range a.Args {
		if !Same(&a.Args[i], &b.Args[i]) {
			return false
		}
	}
	return true
}

// SameLevel tells whether two levels are the same, as they are written.
func SameLevel(a, b api.Level) bool {
	return a.Kind == b.Kind && a.Name == b.Name && slices.EqualFunc(a.Args, b.Args, SameLevel)
}

// Parts tells how many parts a term has: its nodes and those of its levels.
func Parts(t *api.Term) int {
	n := 1
	for i := range t.Args {
		n += Parts(&t.Args[i])
	}
	for i := range t.Levels {
		n += levelParts(&t.Levels[i])
	}
	return n
}

func levelParts(l *api.Level) int {
	n := 1
	for i := range l.Args {
		n += levelParts(&l.Args[i])
	}
	return n
}
