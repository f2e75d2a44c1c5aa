package check

import (
	"strconv"
	"strings"

	"provekernel/api"
	"provekernel/tree"
)

// localMark begins the names of locals: no name of a constant begins so.
const localMark = "#"

// local stands for the variable of the context that has so many variables outside of it; with a number below 0 for one that
// the context lacks.
//
// It is a constant that no environment knows. So it is the same one wherever it stands: a type need not be made anew for
// each place in which it is used, and all that is made of it shares its parts.
func local(number int) formed {
	return formed{api.Term{Kind: api.Const, Name: localMark + strconv.Itoa(number)}, 1}
}

// localNumber is the number of a local; false: the term is none.
func localNumber(t *api.Term) (int, bool) {
	if t.Kind != api.Const || !strings.HasPrefix(t.Name, localMark) {
		return 0, false
	}
	number, err := strconv.Atoi(t.Name[len(localMark):])
	return number, err == nil
}

// bound is a term under binders of the locals from first up to next, the last of them the innermost one: these are variables
// in it.
func bound(t *api.Term, first, next int) formed {
	r := &rewriting{put: func(leaf *api.Term, binders int) *formed {
		number, ok := localNumber(leaf)
		if !ok || number < first {
			return nil
		}
		return &formed{tree.Variable(next - 1 - number + binders), 1}
	}}
	return r.made(t)
}

// products is (pi d1 .. (pi dn result)), of types of locals from first on and of a type in which these stand.
func products(domains []formed, result formed, first int) formed {
	made := bound(&result.term, first, first+len(domains))
	for i := range domains {
		number := len(domains) - 1 - i
		domain := bound(&domains[number].term, first, first+number)
		made = form(api.Term{Kind: api.Pi, Args: []api.Term{domain.term, made.term}}, 1+domain.parts+made.parts)
	}
	return made
}
