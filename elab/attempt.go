package elab

import (
	"provekernel/api"
	"provekernel/fault"
)

// mark: how far finding has come.
type mark struct {
	trail, terms, levels, trials, larger, looked int
	waiting                                      []claim
	open                                         []int
}

func (j *judge) mark() mark {
	return mark{len(j.trail), len(j.terms), len(j.levels), j.trials, j.larger, j.looked, j.waiting, j.open}
}

// backTo takes back all that has been found since, and the holes that have been made. (Locals keep their numbers: the environment
// may know one of them as a let.)
func (j *judge) backTo(m mark) {
	j.takeBack(m.trail)
	j.terms, j.levels = j.terms[:m.terms], j.levels[:m.levels]
	j.waiting, j.open, j.looked = m.waiting, m.open, m.looked
}

// attempt does some work, which is taken back if it throws a fault: the fault, but that there is too little fuel, which goes on.
func (j *judge) attempt(work func()) error {
	m := j.mark()
	j.larger++
	_, err := fault.Caught(func() *judge {
		work()
		return j
	})
	j.trials, j.larger = m.trials, m.larger
	switch code, at := api.Code(err); code {
	case 0:
		return nil
	case api.FTired:
		fault.ThrowAt(code, at)
	}
	j.backTo(m)
	return err
}

// eitherWay does some work. What cannot be found where the types that are told are held against the text ahead of the arguments'
// may be found the other way round; the fault is that of the first way.
func (j *judge) eitherWay(work func()) {
	err := j.attempt(work)
	if !mayFitOtherwise(err) {
		fault.Pass(err)
		return
	}
	j.argsFirst = !j.argsFirst
	again := j.attempt(work)
	j.argsFirst = !j.argsFirst
	if again != nil {
		fault.Pass(err)
	}
}

// mayFitOtherwise tells whether a fault may come of the order in which types are held against one another.
func mayFitOtherwise(err error) bool {
	switch code, _ := api.Code(err); code {
	case api.FArg, api.FFun, api.FSort, api.FStuck:
		return true
	}
	return false
}
