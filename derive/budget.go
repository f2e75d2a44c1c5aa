package derive

import (
	"provekernel/api"
	"provekernel/fault"
	"provekernel/tree"
)

// mostBytes: how many bytes a derivation may take up. The rules ask for steps of their own in each context: lets within lets,
// under binders, can ask for more of them than could ever be told, though no term of theirs is large.
const mostBytes = 1 << 33

// mostWork: how many terms may be gone through in all, and how many steps of reduction taken.
const mostWork = 1 << 31

// About how many bytes things take up, with what is kept to find them again.
const (
	termBytes    = 80  // a term in a list of terms
	nodeBytes    = 200 // a node, without its list
	contextBytes = 100 // a context, without its list
	stepBytes    = 320 // a step, as it is kept and as it is told
	typBytes     = 200 // a type, without its lists
)

// budget counts what is made and done: whatever a term asks for, it must end.
type budget struct {
	bytes  int // how many may still be taken up
	worked uint64
}

// tire throws the fault that says that there is too little fuel.
func tire() { fault.Throw(api.FTired) }

// fits throws FTired, if what is to be formed has too many parts: what grows from step to step must end.
func fits(parts int) {
	if parts > tree.MostParts {
		tire()
	}
}

// take counts bytes that are taken up.
func (b *budget) take(bytes int) {
	b.bytes -= bytes
	if b.bytes < 0 {
		tire()
	}
}

// work counts what is done.
func (b *budget) work(n int) {
	b.worked += uint64(n)
	if b.worked > mostWork {
		tire()
	}
}
