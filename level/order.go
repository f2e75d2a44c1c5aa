package level

import (
	"slices"

	"provekernel/api"
	"provekernel/tree"
)

// Worth is what a level is worth under numbers for parameters; a parameter that is not there counts as 0.
func Worth(l api.Level, params []string, ns []int) int {
	return worth(l, func(name string) int {
		i := slices.Index(params, name)
		if i < 0 || i >= len(ns) {
			return 0
		}
		return ns[i]
	})
}

// Leq tells whether, under all numbers for parameters, a is worth at most what b is.
func Leq(a, b api.Level) bool {
	return always(a, b, func(x, y int) bool { return x <= y })
}

// Same tells whether, under all numbers for parameters, a is worth what b is.
func Same(a, b api.Level) bool {
	return always(a, b, func(x, y int) bool { return x == y })
}

// mostParams: how many parameters two levels may have together that layers above hold against each other. Two declarations
// that are right have six at most, each.
const mostParams = 12

// Comparable tells whether two levels have so few parameters that Leq and Same of them can be waited for: what these try
// doubles with each one, and an environment that was filled without a look may hold levels with any number.
func Comparable(a, b api.Level) bool {
	return len(Params(api.Level{Kind: api.Max, Args: []api.Level{a, b}})) <= mostParams
}

func worth(l api.Level, number func(name string) int) int {
	switch l.Kind {
	case api.Succ:
		return worth(part(l, 0), number) + 1
	case api.Max:
		return max(worth(part(l, 0), number), worth(part(l, 1), number))
	case api.IMax:
		last := worth(part(l, 1), number)
		if last == 0 {
			return 0
		}
		return max(worth(part(l, 0), number), last)
	case api.Param:
		return number(l.Name)
	}
	return 0
}

// part is a level's argument. One that a level lacks against its kind counts as 0, so that no tree makes a call panic.
func part(l api.Level, i int) api.Level {
	if i >= len(l.Args) {
		return api.Level{}
	}
	return l.Args[i]
}

// always tells whether holds (<= or ==) is so of what a and b are worth under all numbers.
//
// A few numbers tell it. Once it is settled which of the parameters that decide an imax (the gates) are 0, a level is
// the greatest of a constant and of some p + k, one for each parameter p at most. Of two such a <= b everywhere just if
// it is so where all p are as small as they may be (a gate that is not 0: 1; what is no gate: 0), and, for each p, where
// that one alone is so great that p + k outweighs all else.
func always(a, b api.Level, holds func(x, y int) bool) bool {
	if tree.SameLevel(a, b) {
		return true // most levels that are compared are the same: nothing need be tried then
	}
	both := api.Level{Kind: api.Max, Args: []api.Level{a, b}}
	isGate := gates(both)
	great := greatNumber(a, b)
	numbers := map[string]int{}
	number := func(name string) int { return numbers[name] }
	var try func(names []string, mayBeGreat bool) bool
	try = func(names []string, mayBeGreat bool) bool {
		if len(names) == 0 {
			return holds(worth(a, number), worth(b, number))
		}
		name, rest := names[0], names[1:]
		numbers[name] = 0
		if !try(rest, mayBeGreat) {
			return false
		}
		numbers[name] = 1
		if isGate[name] > 0 && !try(rest, mayBeGreat) {
			return false
		}
		numbers[name] = great
		return !mayBeGreat || try(rest, false)
	}
	return try(Params(both), true)
}

// gates counts, for each parameter, how often it stands where it may decide whether an imax is worth 0.
func gates(l api.Level) map[string]int {
	counts := map[string]int{}
	var walk func(l api.Level, decides bool)
	walk = func(l api.Level, decides bool) {
		if l.Kind == api.Param && decides {
			counts[l.Name]++
		}
		for i, arg := range l.Args {
			walk(arg, decides || l.Kind == api.IMax && i == 1)
		}
	}
	walk(l, false)
	return counts
}

// greatNumber outweighs, as a parameter's number, whatever a and b can be worth where parameters are 0 or 1: no more than where all are 1.
func greatNumber(a, b api.Level) int {
	one := func(string) int { return 1 }
	return worth(a, one) + worth(b, one) + 1
}
