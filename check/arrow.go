package check

import (
	"provekernel/api"
	"provekernel/tree"
)

// arrow: what is left of a function's type, and the arguments that its variables stand for but that have not been put in
// yet, the outermost first: a function of many arguments would have its whole type made anew for each.
type arrow struct {
	typ  api.Term
	args []*value
}

// put is a part of the type with the arguments put in.
func (a arrow) put(part *api.Term) formed {
	return filled(part, func(n int) formed {
		if n < len(a.args) {
			return a.args[len(a.args)-1-n].formed()
		}
		return formed{tree.Variable(n - len(a.args)), 1}
	})
}
