package check

import "provekernel/api"

// mostRemembered: how many pairs are remembered.
const mostRemembered = 8

// remembered are the last pairs of terms that were found to belong together: a long term asks for few of them, but over and
// over, and what is answered anew each time might take up room for each.
type remembered struct {
	pairs [mostRemembered][2]api.Term
	found int // how many have been found in all
}

// find is the pair that fits; nil: none does.
func (r *remembered) find(fits func(a, b *api.Term) bool) *[2]api.Term {
	for i := range min(r.found, mostRemembered) {
		pair := &r.pairs[i]
		if fits(&pair[0], &pair[1]) {
			return pair
		}
	}
	return nil
}

// add remembers a pair, in the place of the oldest one.
func (r *remembered) add(a, b api.Term) {
	r.pairs[r.found%mostRemembered] = [2]api.Term{a, b}
	r.found++
}
