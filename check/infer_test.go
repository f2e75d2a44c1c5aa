package check

import (
	"reflect"
	"testing"

	"provekernel/api"
	"provekernel/level"
	"provekernel/term"
)

func TestInferVar(t *testing.T) {
	e := world(t)
	asked{e, nil, 100}.tellsAll(t, []pair{
		{"#0", "FVar"},
		{"#99999", "FVar"},
		{"(lam (const Nat) #0)", "(pi (const Nat) (const Nat))"},
		{"(lam (const Nat) #1)", "FVar"},
		{"(lam (sort u) (lam #0 #0))", "(pi (sort u) (pi #0 #1))"},
		{"(lam (sort u) (lam #0 #1))", "(pi (sort u) (pi #0 (sort u)))"},
		{"(lam (sort u) (lam #0 #2))", "FVar"},
		{"(let (const Nat) (const zero) #0)", "(const Nat)"},
		{"(let (const Nat) (const zero) #1)", "FVar"},
		{"(lam (sort u) (let (const Nat) (const zero) #1))", "(pi (sort u) (sort u))"},
		{"(lam (sort u) (let (const Nat) (const zero) #2))", "FVar"},
	})
}

func TestInferSort(t *testing.T) {
	asked{world(t), nil, 0}.tellsAll(t, []pair{
		{"(sort 0)", "(sort (s 0))"},
		{"(sort (s 0))", "(sort (s (s 0)))"},
		{"(sort u)", "(sort (s u))"},
		{"(sort (imax u (max v 0)))", "(sort (s (imax u (max v 0))))"},
		{"(sort w)", "FParam"},
		{"(sort (max u w))", "FParam"},
		{"(sort (imax w u))", "FParam"},
		{"(sort (s (s (imax 0 w))))", "FParam"},
	})
	for _, params := range [][]string{nil, {}, {"v"}, {"U"}} {
		typ, err := Infer(world(t), params, nil, parsed(t, "(sort u)"), 100)
		if code, at := api.Code(err); code != api.FParam || at != 0 || !reflect.DeepEqual(typ, api.Term{}) {
			t.Errorf("Infer of a sort with the parameters %v: %v, fault %d at %d", params, typ, code, at)
		}
	}
	typ, err := Infer(world(t), []string{"a", "b", "c", "d", "e", "w"}, nil, parsed(t, "(sort w)"), 100)
	if err != nil || term.Print(typ) != "(sort (s w))" {
		t.Errorf("Infer of a sort with the last of six parameters: %s, %v", term.Print(typ), err)
	}
}

func TestInferConst(t *testing.T) {
	asked{world(t), nil, 0}.tellsAll(t, []pair{
		{"(const Nat)", "(sort (s 0))"},
		{"(const zero)", "(const Nat)"},
		{"(const n)", "(const N)"},
		{"(const Type)", "(sort (s (s 0)))"},
		{"(const Eq u)", "(pi (sort u) (pi #0 (pi #1 (sort 0))))"},
		{"(const Eq (imax u v))", "(pi (sort (imax u v)) (pi #0 (pi #1 (sort 0))))"},
		{"(const refl (s v))", "(pi (sort (s v)) (pi #0 (app (app (app (const Eq (s v)) #1) #0) #0)))"},
		{"(const Pair v u)", "(pi (sort v) (pi (sort u) (sort (max v u))))"},
		{"(const Pair (max u v) u)", "(pi (sort (max u v)) (pi (sort u) (sort (max (max u v) u))))"},
		{"(const False.rec (s u))", "(pi (pi (const False) (sort (s u))) (pi (const False) (app #1 #0)))"},
		{"(const Eq.rec v u)", "(pi (sort u) (pi #0 (pi (pi #1 (pi (app (app (app (const Eq u) #2) #1) #0) (sort v))) (pi (app (app #0 #1) (app (app (const refl u) #2) #1)) (pi #3 (pi (app (app (app (const Eq u) #4) #3) #0) (app (app #3 #1) #0)))))))"},
		{"(const six 0 u v (s 0) u v)", "(sort (max 0 (max u (max v (max (s 0) (max u v))))))"},
		{"(const none)", "FName"},
		{"(const u)", "FName"},
		{"(const n.rec)", "FName"},
		{"(const Nat u)", "FLevels"},
		{"(const Eq)", "FLevels"},
		{"(const Eq u v)", "FLevels"},
		{"(const Pair u)", "FLevels"},
		{"(const W.rec u v)", "FLevels"},
		{"(const Eq w)", "FParam"},
		{"(const Pair u (s w))", "FParam"},
		{"(const Pair (s w) u)", "FParam"},
	})
}

func TestInferApp(t *testing.T) {
	asked{world(t), nil, 100}.tellsAll(t, []pair{
		{"(app (const succ) (const zero))", "(const Nat)"},
		{"(app (const p) (const two))", "(app (const P) (const two))"},
		{app("(const refl (s 0))", "(const Nat)"), "(pi (const Nat) (app (app (app (const Eq (s 0)) (const Nat)) #0) #0))"},
		{app("(const refl (s 0))", "(const Nat)", app("(const add)", "(const one)", "(const one)")), app("(const Eq (s 0))", "(const Nat)", app("(const add)", "(const one)", "(const one)"), app("(const add)", "(const one)", "(const one)"))},
		{app("(const vcons 0)", "(const Nat)", "(const zero)", "(const one)"), "(pi (app (app (const Vec 0) (const Nat)) (const zero)) (app (app (const Vec 0) (const Nat)) (app (const succ) (const zero))))"},
		{"(app (lam (sort (s 0)) (lam #0 #0)) (const Nat))", "(pi (const Nat) (const Nat))"},
		{"(lam (const Nat) (lam (const Nat) (app (app (lam (const Nat) (lam (const Nat) #1)) #1) #0)))", "(pi (const Nat) (pi (const Nat) (const Nat)))"},
		{"(lam (const Nat) (app (const p) #0))", "(pi (const Nat) (app (const P) #0))"},
		// What is put in for a variable stands under binders: it is lifted.
		{"(lam (sort (s 0)) (app (const refl (s 0)) #0))", "(pi (sort (s 0)) (pi #0 (app (app (app (const Eq (s 0)) #1) #0) #0)))"},
		{"(lam (sort (s 0)) (app (const id (s 0)) #0))", "(pi (sort (s 0)) (pi #0 #1))"},
		{app("(const id (s 0))", "(const Unary)", "(const f)"), "(const Unary)"},
		{app("(const id (s 0))", "(pi (const Nat) (const Nat))", "(const f)", "(const n)"), "(const Nat)"},
		{"(app (const zero) (const zero))", "FFun"},
		{"(app (sort 0) (const zero))", "FFun"},
		{"(app (const Nat) (const zero))", "FFun"},
		{"(app (app (const succ) (const zero)) (const zero))", "FFun"},
		{"(app (pi (const Nat) (const Nat)) (const zero))", "FFun"},
		{"(lam (const Nat) (app #0 #0))", "FFun"},
		{"(app (const succ) (const succ))", "FArg"},
		{"(app (const succ) (const Nat))", "FArg"},
		{"(app (const succ) (const a))", "FArg"},
		{app("(const q)", app("(const p)", "(const one)")), "FArg"},
		{app("(const refl u)", "(sort 0)"), "FArg"},
		{app("(const refl (s 0))", "(sort 0)", "(const Nat)"), "FArg"},
		{app("(const id (s 0))", "(const Nat)", "(const a)"), "FArg"},
	})
}

func TestInferLamAndPi(t *testing.T) {
	asked{world(t), nil, 100}.tellsAll(t, []pair{
		{"(lam (const Nat) (const a))", "(pi (const Nat) (const A))"},
		{"(lam (sort u) (lam (pi #0 #1) (lam #1 (app #1 #0))))", "(pi (sort u) (pi (pi #0 #1) (pi #1 #2)))"},
		{"(lam (const Nat) (sort 0))", "(pi (const Nat) (sort (s 0)))"},
		{"(lam (const N) (app (const succ) #0))", "(pi (const N) (const Nat))"},
		{"(lam (const zero) #0)", "FSort"},
		{"(lam (const succ) #0)", "FSort"},
		{"(lam (lam (const Nat) #0) #0)", "FSort"},
		{"(pi (const Nat) (const Nat))", "(sort (imax (s 0) (s 0)))"},
		{"(pi (sort u) #0)", "(sort (imax (s u) u))"},
		{"(pi (sort u) (sort v))", "(sort (imax (s u) (s v)))"},
		{"(pi (sort u) (pi #0 (sort v)))", "(sort (imax (s u) (imax u (s v))))"},
		{"(pi (const Nat) (app (const P) #0))", "(sort (imax (s 0) 0))"},
		{"(pi (const N) (const Unary))", "(sort (imax (s 0) (s 0)))"},
		{"(pi (const zero) (const Nat))", "FSort"},
		{"(pi (const Nat) #0)", "FSort"},
		{"(pi (const Nat) (const zero))", "FSort"},
		{"(pi (pi (const Nat) (const zero)) (const Nat))", "FSort"},
	})
}

func TestInferLet(t *testing.T) {
	asked{world(t), nil, 100}.tellsAll(t, []pair{
		{"(let (const Nat) (const zero) (app (const succ) #0))", "(const Nat)"},
		{"(let (const Nat) (const zero) (app (const p) #0))", "(app (const P) (const zero))"},
		{"(let (const Nat) (const zero) (lam (app (const P) #0) #0))", "(pi (app (const P) (const zero)) (app (const P) (const zero)))"},
		{"(let (const Nat) (const zero) (pi (app (const P) #0) (sort u)))", "(sort (imax 0 (s u)))"},
		// The body is looked at with the value in its variable's place: it may be right by that alone.
		{"(let (sort (s 0)) (const Nat) (lam #0 (app (const succ) #0)))", "(pi (const Nat) (const Nat))"},
		{"(app (lam (sort (s 0)) (lam #0 (app (const succ) #0))) (const Nat))", "FArg"},
		{"(let (const Nat) (const two) (app (const q) (app (const p) #0)))", "(const Nat)"},
		{"(let (const Unary) (const f) (app #0 (const zero)))", "(const Nat)"},
		// The variable has its value's type, as that is written, not the let's.
		{"(let (const N) (const zero) #0)", "(const Nat)"},
		{"(let (const Nat) (const n) #0)", "(const N)"},
		{"(let (const Unary) (lam (const Nat) #0) #0)", "(pi (const Nat) (const Nat))"},
		// Values in values, under binders.
		{"(lam (const Nat) (let (const Nat) #0 (lam (const Nat) (app (const p) #1))))", "(pi (const Nat) (pi (const Nat) (app (const P) #1)))"},
		{"(lam (const Nat) (let (const Nat) (app (const succ) #0) (let (const Nat) (app (app (const add) #0) #1) (lam (const Nat) (app (const p) (app (app (const add) #0) #1))))))", "(pi (const Nat) (pi (const Nat) (app (const P) (app (app (const add) #0) (app (app (const add) (app (const succ) #1)) #1)))))"},
		{"(lam (sort u) (let (sort u) #0 (lam #0 (let #1 #0 (lam #2 #1)))))", "(pi (sort u) (pi #0 (pi #1 #2)))"},
		{"(let (const Nat) (const zero) (lam (const Nat) (let (const Nat) #1 (app (const p) #0))))", "(pi (const Nat) (app (const P) (const zero)))"},
		{"(let (const zero) (const zero) #0)", "FSort"},
		{"(let (const Nat) (const succ) #0)", "FArg"},
		{"(let (const Nat) (const succ) (const none))", "FArg"},
		{"(let (const Nat) (const zero) (const none))", "FName"},
		{"(let (const Nat) (const zero) (app #0 #0))", "FFun"},
		{"(let (const Nat) (const zero) (lam #0 #0))", "FSort"},
		{"(let (app (const P) (const two)) (app (const p) (const one)) #0)", "FArg"},
	})
}

// Types that are a sort, a pi, or equal to another one, but only after some steps.
func TestInferByReduction(t *testing.T) {
	asked{world(t), nil, 100}.tellsAll(t, []pair{
		{"(lam (const A) #0)", "(pi (const A) (const A))"},
		{"(pi (const A) (const N))", "(sort (imax (s 0) (s 0)))"},
		{"(pi (let (sort (s 0)) (const Nat) #0) (const Nat))", "(sort (imax (s 0) (s 0)))"},
		{"(lam (app (app (const id (s (s 0))) (sort (s 0))) (const Nat)) (app (const succ) #0))", "(pi (app (app (const id (s (s 0))) (sort (s 0))) (const Nat)) (const Nat))"},
		{"(pi (app (app (const id (s (s (s 0)))) (sort (s (s 0)))) (sort (s 0))) #0)", "(sort (imax (s (s 0)) (s 0)))"},
		{"(app (const f) (const n))", "(const Nat)"},
		{"(app (const g) (const n))", "(const Nat)"},
		{"(app (const f) (const a))", "FArg"},
		{"(app (const n) (const n))", "FFun"},
		{"(app (const q) (app (const p) (app (app (const add) (const one)) (const one))))", "(const Nat)"},
		{"(app (const q) (app (const p) (app (app (const add) (const one)) (const two))))", "FArg"},
		// Eta, and levels that are Same.
		{"(app (lam (pi (const Nat) (const Nat)) #0) (const f))", "(pi (const Nat) (const Nat))"},
		{"(lam (pi (pi (const Nat) (const Nat)) (sort 0)) (lam (app #0 (lam (const Nat) (app (const f) #0))) (app (lam (app #1 (const f)) #0) #0)))", "(pi (pi (pi (const Nat) (const Nat)) (sort 0)) (pi (app #0 (lam (const Nat) (app (const f) #0))) (app #1 (const f))))"},
		{"(lam (pi (sort (imax u v)) (const Nat)) (app #0 (pi (sort 0) (const Nat))))", "FArg"},
		{"(app (const id (s (max u v))) (sort (max v u)))", "(pi (sort (max v u)) (sort (max v u)))"},
		{"(lam (sort (max v (max u v))) (app (const id (max u v)) #0))", "(pi (sort (max v (max u v))) (pi #0 #1))"},
		{"(lam (sort (imax u v)) (app (const id (max u v)) #0))", "FArg"},
	})
}

// Which of two faults is told: the first that is met, in the chapter's order.
func TestFirstFault(t *testing.T) {
	asked{world(t), nil, 100}.tellsAll(t, []pair{
		{"(const none w)", "FName"},
		{"(const Eq w w)", "FLevels"},
		{"(const Nat w)", "FLevels"},
		{"(app #0 (sort w))", "FVar"},
		{"(app (sort w) #0)", "FParam"},
		{"(app (const zero) (const none))", "FFun"},
		{"(app (const succ) (const none))", "FName"},
		{"(app (const succ) (app (const zero) #0))", "FFun"},
		{"(app (app (const succ) (const succ)) #0)", "FArg"},
		{"(app (app (const succ) (const zero)) #0)", "FFun"},
		{"(app (app (const add) #0) (sort w))", "FVar"},
		{"(app (app (const add) (const a)) (sort w))", "FArg"},
		{"(lam (const zero) (const none))", "FSort"},
		{"(lam #0 (const none))", "FVar"},
		{"(lam (const Nat) (const none))", "FName"},
		{"(pi (const zero) (const none))", "FSort"},
		{"(pi (const none) (const zero))", "FName"},
		{"(pi (const Nat) (lam #0 (sort w)))", "FSort"},
		{"(pi (sort w) (const zero))", "FParam"},
		{"(let (const zero) #0 (sort w))", "FSort"},
		{"(let #0 (sort w) (const none))", "FVar"},
		{"(let (const Nat) #0 (sort w))", "FVar"},
		{"(let (const Nat) (const a) (sort w))", "FArg"},
		{"(let (const Nat) (const zero) (app #1 (sort w)))", "FVar"},
		{"(app (lam (const Nat) #1) (const none))", "FVar"},
		{"(app (lam (const zero) #1) (const none))", "FSort"},
		// What is wrong in a let's body that does not name its variable, and in a value that is not named.
		{"(let (const Nat) (app (const succ) (const a)) (const zero))", "FArg"},
		{"(let (const none) (const zero) (const zero))", "FName"},
	})
}

func TestInferInContext(t *testing.T) {
	texts := []string{"(sort u)", "#0", "(pi #1 #2)", "(const Nat)", "(pi #3 (sort v))", "(app #0 #3)"}
	asked{world(t), parsedAll(t, texts), 100}.tellsAll(t, []pair{
		{"#0", "(app #1 #4)"},
		{"#1", "(pi #5 (sort v))"},
		{"#2", "(const Nat)"},
		{"#3", "(pi #5 #6)"},
		{"#4", "#5"},
		{"#5", "(sort u)"},
		{"#6", "FVar"},
		{"(app #3 #4)", "#5"},
		{"(app #3 (app #3 #4))", "#5"},
		{"(app #3 #2)", "FArg"},
		{"(app #2 #2)", "FFun"},
		{"(app #1 #4)", "(sort v)"},
		{"(pi (app #1 #4) (sort u))", "(sort (imax v (s u)))"},
		{"(lam #5 (app #4 #0))", "(pi #5 #6)"},
		{"(lam #5 #1)", "(pi #5 (app #2 #5))"},
		{"(lam (app #1 #4) #0)", "(pi (app #1 #4) (app #2 #5))"},
		{"(lam #4 #0)", "FSort"},
		{"(let #5 #4 (app #2 #0))", "(sort v)"},
		{"(let #5 #4 (lam (app #2 #0) #2))", "(pi (app #1 #4) (app #2 #5))"},
		{"(let #5 (app #3 #4) (lam (app #2 #0) #0))", "(pi (app #1 (app #3 #4)) (app #2 (app #4 #5)))"},
		{"(let (app #1 #4) #0 (lam #6 #1))", "(pi #5 (app #2 #5))"},
		{"(let (app #1 #4) #0 #7)", "FVar"},
		{"(app (lam #5 (lam (const Nat) #1)) #4)", "(pi (const Nat) #6)"},
		{"(app (const p) #2)", "(app (const P) #2)"},
	})
	// What a context says is taken as it is.
	asked{world(t), parsedAll(t, []string{"(const none)", "(app #5 (sort w))"}), 100}.tellsAll(t, []pair{
		{"#1", "(const none)"},
		{"#0", "(app #6 (sort w))"},
		{"(app #1 #0)", "FFun"},
	})
	// So is what an environment says.
	e := world(t)
	e.Put(declared(t, "(axiom loose () (pi (const Nat) (pi (const Nat) (pi #1 #7))))")[0], nil, api.Term{})
	asked{e, nil, 100}.tellsAll(t, []pair{
		{"(const loose)", "(pi (const Nat) (pi (const Nat) (pi #1 #7)))"},
		{"(app (const loose) (const one))", "(pi (const Nat) (pi (const one) #6))"},
		{"(app (app (const loose) (const one)) (const two))", "(pi (const one) #5)"},
	})
}

func TestSortOf(t *testing.T) {
	ctx := parsedAll(t, []string{"(sort u)", "(const Type)", "#0", "#2", "(pi #3 (sort v))"})
	for _, c := range []struct{ text, want string }{
		{"(const Nat)", "(s 0)"},
		{"(const False)", "0"},
		{"(const A)", "(s 0)"},
		{"(const Type)", "(s (s 0))"},
		{"(sort (max u v))", "(s (max u v))"},
		{"(pi (sort u) #0)", "(imax (s u) u)"},
		{"(pi (const A) (const A))", "(imax (s 0) (s 0))"},
		{"#4", "u"},
		{"#3", "(s 0)"},
		{"#2", "FSort"},
		{"(app #0 #1)", "v"},
		{"(app #0 #2)", "FArg"},
		{"#0", "FSort"},
		{"#5", "FVar"},
		{"(const zero)", "FSort"},
		{"(const succ)", "FSort"},
		{"(const P)", "FSort"},
		{"(const none)", "FName"},
		{"(lam (const Nat) (const Nat))", "FSort"},
		{"(let (const Type) (const Nat) #0)", "(s 0)"},
		{"(app (const P) (const one))", "0"},
		{app("(const id (s (s 0)))", "(sort (s 0))", "(const Nat)"), "(s 0)"},
		{app("(const id (s (s 0)))", "(const Type)", "(const Nat)"), "(s 0)"},
		{app("(const Pair u (s v))", "#4", "(sort v)"), "(max u (s v))"},
	} {
		if got := (asked{world(t), ctx, 100}).toldSort(t, parsed(t, c.text)); got != c.want {
			t.Errorf("Sort(%s) = %s, want %s", c.text, got, c.want)
		}
	}
}

// DOC.md's examples.
func TestExamples(t *testing.T) {
	asked{world(t), nil, 100}.tellsAll(t, []pair{
		{"(pi (sort u) #0)", "(sort (imax (s u) u))"},
		{"(app (const succ) (const succ))", "FArg"},
	})
}

// overwrite fills every list of a term with others, from within.
func overwrite(t api.Term) {
	for i := range t.Args {
		overwrite(t.Args[i])
		t.Args[i] = api.Term{Kind: api.Const, Name: "overwritten"}
	}
	for i := range t.Levels {
		overwriteLevel(t.Levels[i])
		t.Levels[i] = api.Level{Kind: api.Param, Name: "overwritten"}
	}
}

func overwriteLevel(l api.Level) {
	for i := range l.Args {
		overwriteLevel(l.Args[i])
		l.Args[i] = api.Level{Kind: api.Param, Name: "overwritten"}
	}
}

// What is handed over is only read, and what is answered is new: no list of it is another's.
func TestAnswersAreNew(t *testing.T) {
	e := world(t)
	ctxTexts := []string{"(sort (max u v))", "(pi #0 (sort (s u)))", "#1"}
	for _, text := range []string{
		"#0", "#1", "#2", "(const Eq (max u v))", "(sort (max u v))", "(app #1 #0)", "(pi #2 (app #2 #0))", "(pi (sort (max u v)) (sort (max u v)))",
		"(lam (pi #2 (sort (max u v))) #0)", "(let (sort (max u v)) #2 (lam #0 (lam (pi #4 #2) #0)))", app("(const refl (s (s u)))", "(sort (s u))", "(app #1 #0)"), "(const Pair (max u v) (max u v))",
	} {
		ctx, made, params := parsedAll(t, ctxTexts), parsed(t, text), []string{"u", "v"}
		want, err := Infer(e, params, ctx, made, 100)
		if err != nil {
			t.Errorf("Infer(%s): %v", text, err)
		}
		got, _ := Infer(e, params, ctx, made, 100)
		sort, sortErr := Sort(e, params, ctx, made, 100)
		if !reflect.DeepEqual(ctx, parsedAll(t, ctxTexts)) || !reflect.DeepEqual(made, parsed(t, text)) || !reflect.DeepEqual(params, levelNames) {
			t.Errorf("Infer(%s) changes what is handed over", text)
		}
		printed := term.Print(want)
		overwrite(got)
		overwriteLevel(sort)
		overwritten := term.Print(got)
		if again := (asked{e, ctx, 100}).told(t, made); again != printed || term.Print(want) != printed {
			t.Errorf("Infer(%s) answers what is another's: %s, at first %s", text, again, printed)
		}
		for _, c := range ctx {
			overwrite(c)
		}
		overwrite(made)
		if term.Print(want) != printed || term.Print(got) != overwritten {
			t.Errorf("Infer(%s) keeps what was handed over", text)
		}
		if sortErr == nil && level.Print(sort) == "" {
			t.Errorf("Sort(%s) is nothing", text)
		}
	}
}

// No two lists of one answer are one.
func TestListsOfAnAnswer(t *testing.T) {
	e := world(t)
	for _, text := range []string{
		"(lam (pi (sort (max u v)) (sort (max u v))) #0)", "(let (sort (s u)) (sort u) (lam #0 (lam #1 (lam #2 #0))))",
		app("(const refl (s 0))", "(const Nat)", "(app (const succ) (const one))"), "(const Pair (max u v) (max u v))", "(pi (sort (max u v)) (sort (max u v)))",
	} {
		typ, err := Infer(e, levelNames, nil, parsed(t, text), 100)
		if err != nil {
			t.Errorf("Infer(%s): %v", text, err)
		}
		lists := map[any]int{}
		var count func(made api.Term)
		var countLevel func(l api.Level)
		countLevel = func(l api.Level) {
			for i := range l.Args {
				lists[&l.Args[i]]++
				countLevel(l.Args[i])
			}
		}
		count = func(made api.Term) {
			for i := range made.Levels {
				lists[&made.Levels[i]]++
				countLevel(made.Levels[i])
			}
			for i := range made.Args {
				lists[&made.Args[i]]++
				count(made.Args[i])
			}
		}
		count(typ)
		for _, n := range lists {
			if n > 1 {
				t.Errorf("Infer(%s): a list stands %d times in the answer", text, n)
			}
		}
	}
}
