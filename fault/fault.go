// Package fault: faults that are thrown within a layer and answered at its edge.
package fault

import "provekernel/api"

// Throw throws the fault of that code, that has no place.
func Throw(code int) { ThrowAt(code, 0) }

// ThrowAt throws the fault of that code and place.
func ThrowAt(code, at int) { panic(&api.Fault{Code: code, At: at}) }

// Pass throws what a call of another layer answered as its fault; nothing, if it answered none.
func Pass(err error) {
	if err != nil {
		ThrowAt(api.Code(err))
	}
}

// Caught is what work makes, or the fault that it throws. Other panics go on.
func Caught[T any](work func() T) (made T, err error) {
	defer func() {
		thrown := recover()
		if thrown == nil {
			return
		}
		fault, ok := thrown.(*api.Fault)
		if !ok {
			panic(thrown)
		}
		var none T
		made, err = none, fault
	}()
	return work(), nil
}
