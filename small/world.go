package small

import (
	"math"
	"slices"

	"provekernel/api"
)

// constant: what is known of a name.
type constant struct {
	params int // how many parameters of levels it has
	typ    func(l *looker, ranks []*rank) *thunk
	// A definition and a recursor take a step: with levels and as many arguments as they need; false: with these they can't.
	needs  int // 0: it is a definition
	step   func(l *looker, ranks []*rank, args []*thunk) (value, bool)
	family *family // of a constructor
	number int     // of a constructor: its place among its family's
}

// never: what a constant needs that takes no step.
const never = -1

// world knows the constants of the declarations that have been found right.
type world struct {
	reader
	fuel      int // how many steps a question may take
	constants map[string]*constant
}

// room: how many steps a question may take beyond the fuel. What is asked here takes no more of them than the kernel takes for
// it, since nothing is found twice that stands in two places; but nothing shall hang on how steps are counted.
const room = 1000

// newWorld knows nothing.
func newWorld(fuel int) *world {
	return &world{reader{map[string]*node{}}, max(min(fuel, math.MaxInt-room)+room, 0), map[string]*constant{}}
}

// add looks a declaration over, and adds its constants. It throws the first fault that it meets.
func (w *world) add(d api.Decl) {
	w.lookNames(d)
	if len(d.Params) > mostParams || standsTwice(d.Params) {
		throw(api.FParam)
	}
	l := newLooker(w, d.Params)
	typ := w.term(&d.Type)
	l.sort(typ, l.start())
	switch d.Kind {
	case api.Def:
		stands := w.term(&d.Value)
		l.match(l.typeOf(stands, l.start()), l.delay(typ, l.own))
		w.constants[d.Name] = defined(d.Params, typ, stands)
	case api.Inductive:
		w.addFamily(l, d, typ)
	default:
		w.constants[d.Name] = declared(d.Params, typ)
	}
}

// lookNames throws FTwice, if a name that a declaration brings is known, or if it brings it twice.
func (w *world) lookNames(d api.Decl) {
	names := map[string]int{}
	look := func(name string) {
		names[name]++
		if w.constants[name] != nil || names[name] > 1 {
			throw(api.FTwice)
		}
	}
	look(d.Name)
	if d.Kind == api.Inductive {
		for _, c := range d.Ctors {
			look(c.Name)
		}
		look(recursorName(d.Name))
	}
}

// standsTwice tells whether one of the names stands there twice.
func standsTwice(names []string) bool {
	for i, name := range names {
		if slices.Contains(names[i+1:], name) {
			return true
		}
	}
	return false
}

// declared is a constant that takes no step.
func declared(params []string, typ *node) *constant {
	return &constant{params: len(params), typ: instance(params, typ), needs: never}
}

// defined is a definition.
func defined(params []string, typ, stands *node) *constant {
	unfold := instance(params, stands)
	step := func(l *looker, ranks []*rank, _ []*thunk) (value, bool) {
		l.step()
		return l.force(unfold(l, ranks)), true
	}
	return &constant{params: len(params), typ: instance(params, typ), step: step}
}

// instance is a term without free variables, for whatever its levels' parameters stand for.
func instance(params []string, t *node) func(l *looker, ranks []*rank) *thunk {
	return func(l *looker, ranks []*rank) *thunk {
		return l.delay(t, &env{levels: &leveling{params, ranks}})
	}
}
