package derive

import (
	"provekernel/api"
	"provekernel/fault"
)

// mostPlain: how many steps a derivation may have that has one for each place of the term. A longer one does not derive again
// what it has derived: lets within lets would take time without end.
const mostPlain = 100

// place: two numbers: mostly a context's and a term's.
type place struct{ a, b int32 }

// context: the types of the free variables. The same one is made once.
type context struct {
	outer int32
	typ   int32 // of the innermost variable: its node's number
	count int32 // how many variables there are
	size  int   // how many parts their types have together
	taken bool  // whether there is one with one more variable

	types  []api.Term // once they have been listed
	goesOn bool       // whether another one's types go on in that list
}

// step of a derivation: the context's number, the term's, and those of the steps that it stands on.
type step struct {
	context, term int32
	prems         [3]int32
}

// outline of a derivation: which steps there are. What types they derive is found once that is known: so a derivation that
// would take up too much is given up while it is small.
//
// It is made of a term that check has found right: nothing need be asked again. But it takes a let as the rule's words do:
// check finds the type of its value once, a derivation has steps for it wherever it is put in.
type outline struct {
	maker
	contexts []context // by number; the first is the one without variables
	inner    map[place]int32
	steps    []step
	places   map[place]int32 // by which step a term has been derived in a context
}

func newOutline(bytes int) *outline {
	return &outline{maker: newMaker(bytes), contexts: []context{{}}, inner: map[place]int32{}, places: map[place]int32{}}
}

// with is a context with one more variable.
func (o *outline) with(outer int32, typ *node) int32 {
	at := place{outer, typ.number}
	if known, ok := o.inner[at]; ok {
		return known
	}
	c := &o.contexts[outer]
	made := context{outer: outer, typ: typ.number, count: c.count + 1, size: c.size + typ.size}
	room := 2 * termBytes
	if c.taken { // only one can go on in the list of the one outside
		room = termBytes * int(made.count)
	}
	c.taken = true
	o.take(contextBytes + room)
	number := int32(len(o.contexts))
	o.contexts = append(o.contexts, made)
	o.inner[at] = number
	return number
}

// derive adds the steps that derive a term's type in a context, and answers the number of the last one.
func (o *outline) derive(c int32, t *node) int32 {
	at := place{c, t.number}
	if known, ok := o.places[at]; ok && len(o.steps) >= mostPlain {
		return known
	}
	made := step{context: c, term: t.number}
	switch t.Kind {
	case api.Var:
		if t.N >= int(o.contexts[c].count) {
			fault.Throw(api.FVar)
		}
	case api.App:
		made.prems = [3]int32{o.derive(c, t.parts[0]), o.derive(c, t.parts[1])}
	case api.Lam, api.Pi:
		made.prems = [3]int32{o.derive(c, t.parts[0]), o.derive(o.with(c, t.parts[0]), t.parts[1])}
	case api.Let:
		made.prems = [3]int32{o.derive(c, t.parts[0]), o.derive(c, t.parts[1]), o.derive(c, o.unfolded(t))}
	}
	o.take(stepBytes)
	number := int32(len(o.steps))
	o.steps = append(o.steps, made)
	o.places[at] = number
	return number
}
