package small

import "provekernel/api"

// mostLooks: how many values one question may compare. The document promises nothing of terms with more than 20000 parts.
const mostLooks = 1 << 18

// deepest: how deep calls may lie within calls. Those that take steps may lie as deep as there is fuel.
const deepest = 300000

// mostKept: how many steps may have been taken for what is kept of terms: it takes up room for each.
const mostKept = 1 << 18

// looker looks one declaration over.
type looker struct {
	*world
	params []string
	own    *env // in which the declaration's own terms stand that have no variables
	points int  // at how many points levels are held against each other

	left  int // how many steps the question may still take that is asked
	looks int // how many values it may still compare
	deep  int // how many calls lie within each other

	variables int              // how many have been made
	values    map[*node]*thunk // of terms that hang on nothing
	types     map[*node]*thunk // of the declaration's own terms that have no free variables
	taken     int              // how many steps have been taken since these have been kept
}

func newLooker(w *world, params []string) *looker {
	l := &looker{world: w, params: params, points: pointsOf(len(params))}
	l.forget()
	var own []*rank
	for _, numbers := range numbersOf(len(params)) {
		own = append(own, &rank{worths: numbers})
	}
	l.own = &env{levels: &leveling{params, own}}
	return l
}

// step counts one.
func (l *looker) step() {
	if l.left <= 0 {
		throw(api.FTired)
	}
	l.left--
	l.taken++
}

// look counts a value that is compared.
func (l *looker) look() {
	if l.looks <= 0 {
		throw(api.FTired)
	}
	l.looks--
}

func (l *looker) enter() {
	l.deep++
	if l.deep > deepest {
		throw(api.FTired)
	}
}

func (l *looker) leave() { l.deep-- }

// ask begins a question, that has steps of its own.
func (l *looker) ask() {
	l.left, l.looks = l.fuel, mostLooks
	if l.taken > mostKept {
		l.forget()
	}
}

// forget gives up what is kept of terms: it is found again where it is asked for.
func (l *looker) forget() {
	l.values, l.types, l.taken = map[*node]*thunk{}, map[*node]*thunk{}, 0
}

// variable is a new one.
func (l *looker) variable() *thunk {
	l.variables++
	return found(&stuck{head: head{variable: l.variables}})
}
