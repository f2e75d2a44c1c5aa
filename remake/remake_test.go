package remake_test

import (
	"strconv"
	"testing"

	"provekernel/api"
	"provekernel/fault"
	"provekernel/remake"
	"provekernel/term"
)

// read is the term of a text.
func read(t *testing.T, text string) *api.Term {
	t.Helper()
	made, err := term.Parse(text)
	if err != nil {
		t.Fatalf("%s is no term", text)
	}
	return &made
}

// is tests that a term is that of a text, in which L3 stands for the local of number 3.
func is(t *testing.T, what string, got *api.Term, want string) {
	t.Helper()
	if got := term.Print(*got); got != want {
		t.Errorf("%s is %s, want %s", what, got, want)
	}
}

func budget() *remake.Budget { return &remake.Budget{Left: 10000} }

// Terms with others put in: variables within go up by the binders that they come to stand under, those outside go down.
func TestFilled(t *testing.T) {
	a, b := read(t, "(app #0 (const a))"), read(t, "(const b)")
	for text, want := range map[string]string{
		"#0":                         "(const b)",
		"#1":                         "(app #0 (const a))",
		"#2":                         "#0",
		"(const c)":                  "(const c)",
		"(lam #0 #0)":                "(lam (const b) #0)",
		"(lam #1 #1)":                "(lam (app #0 (const a)) (const b))",
		"(lam #1 #2)":                "(lam (app #0 (const a)) (app #1 (const a)))",
		"(let #2 #0 (pi #1 #4))":     "(let #0 (const b) (pi (const b) #2))",
		"(app (app #0 #1) #3)":       "(app (app (const b) (app #0 (const a))) #1)",
		"(lam (sort u) (app #0 #0))": "(lam (sort u) (app #0 #0))",
	} {
		is(t, text, budget().Filled(read(t, text), []*api.Term{a, b}), want)
		is(t, text, budget().Put(remake.Opened{Term: read(t, text)}.With(read(t, text), a).With(read(t, text), b)), want)
	}
}

// What is not changed is shared, and what is changed is new: what was handed over stays.
func TestShared(t *testing.T) {
	whole := read(t, "(app (lam (sort u) #0) (app (const f) #0))")
	made := budget().Filled(whole, []*api.Term{read(t, "(const a)")})
	is(t, "it", made, "(app (lam (sort u) #0) (app (const f) (const a)))")
	is(t, "what was handed over", whole, "(app (lam (sort u) #0) (app (const f) #0))")
	if &made.Args[0].Args[0] != &whole.Args[0].Args[0] {
		t.Error("a part that is the same is made anew")
	}
	if same := budget().Filled(&whole.Args[0], []*api.Term{whole}); same != &whole.Args[0] {
		t.Error("a term that is the same is made anew")
	}
	is(t, "lifted", budget().Lifted(whole, 2), "(app (lam (sort u) #0) (app (const f) #2))")
}

// Locals: they are bound as variables, replaced by others, and found.
func TestLocals(t *testing.T) {
	a, b := remake.Local(3), remake.Local(7)
	whole := remake.Apply(remake.Constant("f", api.Level{}), a, remake.Binder(api.Lam, b, remake.Apply(remake.Variable(0), a)))
	is(t, "bound", budget().Bound(whole, []int{3, 7}), "(app (app (const f 0) #1) (lam #0 (app #0 #2)))")
	is(t, "bound", budget().Bound(whole, []int{7}), "(app (app (const f 0) (const #3)) (lam #0 (app #0 (const #3))))")
	is(t, "replaced", budget().Replaced(whole, map[int]*api.Term{3: read(t, "(const c)")}), "(app (app (const f 0) (const c)) (lam (const #7) (app #0 (const c))))")
	for number, want := range map[int]bool{3: true, 7: true, 4: false} {
		if got := budget().HasLocal(whole, func(n int) bool { return n == number }); got != want {
			t.Errorf("that local %d stands in it is %t", number, got)
		}
	}
	if !budget().HasVariable(read(t, "(lam (sort u) (app #0 #3))"), 2) || budget().HasVariable(read(t, "(lam (sort u) (app #0 #3))"), 0) {
		t.Error("which variables stand in it is told wrong")
	}
	f, args := remake.Spine(whole)
	if f.Name != "f" || len(args) != 2 || remake.HeadOf(whole).Name != "f" || len(remake.PartsOf(whole)) != 2 {
		t.Error("it is taken apart wrong")
	}
}

// Signs: each kind of mark is its own, whatever the number, and none is a name.
func TestMarks(t *testing.T) {
	for _, number := range []int{0, 7, 12345} {
		local, slot, hole := remake.Local(number), remake.Slot(number), remake.Hole(number, []api.Term{*remake.Variable(0)})
		level := remake.LevelHole(number)
		n, isLocal := remake.LocalNumber(local)
		m, isSlot := remake.SlotNumber(slot)
		k, isHole := remake.HoleNumber(hole)
		l, isLevel := remake.LevelNumber(&level)
		if !isLocal || !isSlot || !isHole || !isLevel || n != number || m != number || k != number || l != number {
			t.Errorf("%d is told as %d, %d, %d, %d", number, n, m, k, l)
		}
		for _, other := range []*api.Term{slot, hole, remake.Constant(strconv.Itoa(number)), remake.Variable(number), remake.Constant("")} {
			if _, ok := remake.LocalNumber(other); ok {
				t.Errorf("%s is a local", term.Print(*other))
			}
		}
		if named, ok := remake.LocalNamed(local.Name); !ok || named != number {
			t.Errorf("%s names the local %d", local.Name, named)
		}
	}
	if _, ok := remake.LevelNumber(&api.Level{Kind: api.Param, Name: "u"}); ok {
		t.Error("a parameter is left open")
	}
}

// When too much has been looked at, FTired is thrown.
func TestBudget(t *testing.T) {
	whole := read(t, "(app (app (const f) #0) (app #1 #0))")
	for left := range 12 {
		b := &remake.Budget{Left: left}
		_, err := fault.Caught(func() *api.Term { return b.Lifted(whole, 1) })
		if code, _ := api.Code(err); code != 0 && code != api.FTired || (code == 0) != (left >= 7) {
			t.Errorf("with %d there is the fault %d", left, code)
		}
	}
}

// Levels that are copied share nothing with those that were handed over.
func TestCopiedLevels(t *testing.T) {
	ls := []api.Level{{Kind: api.Max, Args: []api.Level{{Kind: api.Param, Name: "u"}, {}}}}
	made := remake.CopiedLevels(ls)
	ls[0].Args[0].Name = "v"
	is(t, "it", remake.Sort(remake.Successor(made[0])), "(sort (s (max u 0)))")
}
