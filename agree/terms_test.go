package agree

import (
	"testing"

	"provekernel/api"
	"provekernel/check"
	"provekernel/file"
	"provekernel/kernel"
	"provekernel/reduce"
	"provekernel/small"
	"provekernel/term"
)

// levelNames: the parameters of drawn declarations.
var levelNames = []string{"u", "v"}

// room: how many steps small takes beyond the fuel that it is told. (Told so many fewer it takes just as many as the kernel.)
const room = 1000

// world is an environment that knows the world.
func world(t testing.TB) *reduce.Env {
	t.Helper()
	e, _, err := kernel.File(worldText, 1000)
	if err != nil {
		t.Fatal(said(err))
	}
	return e
}

// defined is the text of a definition.
func defined(typ, value api.Term) string {
	return file.Print(api.Decl{Kind: api.Def, Name: "drawn", Params: levelNames, Type: typ, Value: value})
}

// declarations draws a term, and what says something of it: that it has the type that it has, that it is equal to its normal
// form, or to another one; or the same with something in it spoiled.
func (d *drawer) declarations(e *reduce.Env) []string {
	t := d.any(2 + d.Intn(6))
	for d.Intn(3) == 0 {
		t = d.spoiled(t)
	}
	typ, err := check.Infer(e, levelNames, nil, t, 1000)
	if err != nil {
		return []string{defined(made("(sort 0)"), t)}
	}
	texts := []string{defined(typ, t), defined(d.spoiled(typ), t)}
	normal, _, err := e.Normal(typ, 1000)
	if err == nil {
		texts = append(texts, defined(normal, t))
	}
	l, err := check.Sort(e, levelNames, nil, typ, 1000)
	if err != nil {
		return texts
	}
	others := []api.Term{d.any(5), d.spoiled(t)}
	if form, _, err := e.Normal(t, 1000); err == nil {
		others = append(others, form, d.spoiled(form))
	}
	for _, other := range others {
		eq := api.Term{Kind: api.Const, Name: "Eq", Levels: []api.Level{l}}
		refl := api.Term{Kind: api.Const, Name: "refl", Levels: []api.Level{l}}
		texts = append(texts, defined(term.Apply(eq, []api.Term{typ, t, other}), term.Apply(refl, []api.Term{typ, t})))
	}
	return texts
}

// enough is the least fuel with which the kernel is not tired of a text; the most that there is, if it is so with that, too.
func enough(text string) int {
	isTired := func(fuel int) bool {
		_, _, err := kernel.File(text, fuel)
		return said(err) == tired
	}
	least, most := 0, 1
	for most < mostFuel && isTired(most) {
		least, most = most+1, min(2*most, mostFuel)
	}
	for least < most {
		middle := (least + most) / 2
		if isTired(middle) {
			least = middle + 1
		} else {
			most = middle
		}
	}
	return least
}

const mostFuel = 100000

// Drawn terms, with much fuel, with little, and with just enough for the kernel: there small is told so much less that it has
// no step of room.
func TestDrawnTerms(t *testing.T) {
	t.Parallel()
	e := world(t)
	counts := map[string]int{}
	for seed := range int64(300) {
		d := newDrawer(seed)
		for _, more := range d.declarations(e) {
			text := worldText + more
			if len(text) > 200000 {
				continue
			}
			_, got := agrees(t, text, []int{1000, 1000, mostFuel, 100, d.Intn(100)}[d.Intn(5)])
			counts[codeOf(got)]++
			if got == tired || d.Intn(4) > 0 {
				continue
			}
			fuel := enough(text)
			_, n, err := kernel.File(text, fuel)
			if m, smallErr := small.Check(text, fuel-room); m != n || said(smallErr) != said(err) {
				t.Errorf("Check(%s), fuel %d, without room: %d, %s; kernel.File: %d, %s", shortened(text), fuel, m, said(smallErr), n, said(err))
			}
		}
	}
	for _, code := range []string{right, "FVar", "FParam", "FName", "FLevels", "FFun", "FArg", "FSort", tired} {
		if counts[code] < 10 {
			t.Errorf("%s has been said only %d times: %v", code, counts[code], counts)
		}
	}
}
