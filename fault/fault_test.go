package fault

import (
	"errors"
	"testing"

	"provekernel/api"
)

func TestCaught(t *testing.T) {
	for _, c := range []struct {
		work     func() int
		made     int
		code, at int
	}{
		{func() int { return 7 }, 7, 0, 0},
		{func() int { Throw(api.FArg); return 7 }, 0, api.FArg, 0},
		{func() int { ThrowAt(api.FText, 12); return 7 }, 0, api.FText, 12},
		{func() int { Pass(nil); return 7 }, 7, 0, 0},
		{func() int { Pass(&api.Fault{Code: api.FTired, At: 3}); return 7 }, 0, api.FTired, 3},
	} {
		made, err := Caught(c.work)
		if code, at := api.Code(err); made != c.made || code != c.code || at != c.at {
			t.Errorf("Caught: %d, fault %d at %d; want %d, %d at %d", made, code, at, c.made, c.code, c.at)
		}
	}
}

// A panic that is no fault is a mistake in the program: it is not hidden.
func TestOtherPanicsGoOn(t *testing.T) {
	for _, other := range []any{"text", errors.New("error")} {
		func() {
			defer func() {
				if thrown := recover(); thrown != other {
					t.Errorf("%v was thrown, %v came out", other, thrown)
				}
			}()
			Caught(func() int { panic(other) })
		}()
	}
}
