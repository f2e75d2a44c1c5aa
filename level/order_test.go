package level

import (
	"math/rand"
	"strconv"
	"strings"
	"testing"

	"provekernel/api"
)

var sixNames = []string{"u", "v", "w", "x", "y", "z"}

func TestWorth(t *testing.T) {
	params, ns := []string{"u", "v", "u", "x"}, []int{3, 0, 8, 5}
	for _, c := range []struct {
		text string
		want int
	}{
		{"0", 0},
		{"u", 3},
		{"v", 0},
		{"x", 5},
		{"absent", 0},
		{"(s absent)", 1},
		{"(s (s u))", 5},
		{"(max u v)", 3},
		{"(max v u)", 3},
		{"(max u x)", 5},
		{"(imax u v)", 0},
		{"(imax u absent)", 0},
		{"(imax u 0)", 0},
		{"(imax v u)", 3},
		{"(imax u x)", 5},
		{"(imax x u)", 5},
		{"(imax u (s v))", 3},
		{"(imax x (imax u v))", 0},
		{"(imax x (max u v))", 5},
		{"(imax (imax x v) (s 0))", 1},
		{"(s (imax u v))", 1},
	} {
		if got := Worth(parsed(t, c.text), params, ns); got != c.want {
			t.Errorf("Worth(%s) = %d, want %d", c.text, got, c.want)
		}
	}
	if got := Worth(succ(u), nil, nil); got != 1 {
		t.Errorf("Worth without numbers = %d", got)
	}
}

func TestLeqAndSame(t *testing.T) {
	for _, c := range []struct {
		a, b         string
		below, above bool // a is Leq b; b is Leq a
	}{
		{"u", "(max u v)", true, false},
		{"(imax u (s v))", "(max u (s v))", true, true},
		{"(imax u 0)", "0", true, true},
		{"(imax u v)", "(max u v)", true, false},
		{"(s 0)", "(max (s u) v)", true, false},
		{"(s 0)", "u", false, false},
		{"0", "0", true, true},
		{"0", "u", true, false},
		{"u", "u", true, true},
		{"u", "v", false, false},
		{"u", "(s u)", true, false},
		{"u", "(s v)", false, false},
		{"(s (s (s 0)))", "(max (s (s u)) v)", false, false},
		{"(s (s 0))", "(max (s (s u)) v)", true, false},
		{"(max u v)", "(max v u)", true, true},
		{"(max u (max v w))", "(max (max w u) v)", true, true},
		{"(s (max u v))", "(max (s v) (s u))", true, true},
		{"(imax u u)", "u", true, true},
		{"(imax 0 u)", "u", true, true},
		{"(imax (s 0) u)", "u", true, true},
		{"(imax (s (s 0)) u)", "u", false, true},
		{"(imax (s u) u)", "u", false, true},
		{"(imax (s u) u)", "(s u)", true, false},
		{"(imax (s u) (s u))", "(s u)", true, true},
		{"(imax u v)", "u", false, false},
		{"(imax u v)", "v", false, true},
		{"(imax v u)", "(max u (s 0))", false, false},
		{"(imax u (imax v w))", "(imax (max u v) w)", true, true},
		{"(imax u (max v w))", "(max (imax u v) (imax u w))", true, true},
		{"(imax (imax u v) w)", "(imax u w)", false, false},
		{"(s (imax u v))", "(imax (s u) (s v))", true, false},
		{"(max u (imax v u))", "(imax v u)", true, true},
		{"(max (imax u v) v)", "(imax u v)", true, true},
		{"(imax u (imax u 0))", "(imax v 0)", true, true},
	} {
		a, b := parsed(t, c.a), parsed(t, c.b)
		checkOrder(t, a, b, c.below, c.above)
		checkOrder(t, b, a, c.above, c.below)
	}
}

// checkOrder: Leq of a and b, and Same, that must be both of a, b and of b, a.
func checkOrder(t *testing.T, a, b api.Level, below, above bool) {
	t.Helper()
	if got := Leq(a, b); got != below {
		t.Errorf("Leq(%s, %s) = %v", Print(a), Print(b), got)
	}
	if got := Same(a, b); got != (below && above) {
		t.Errorf("Same(%s, %s) = %v", Print(a), Print(b), got)
	}
}

func TestSixParameters(t *testing.T) {
	for _, c := range []struct {
		a, b         string
		below, above bool
	}{
		{"(max u (max v (max w (max x (max y z)))))", "(max z (max y (max x (max w (max v u)))))", true, true},
		{"(imax u (imax v (imax w (imax x (imax y z)))))", "(imax (max u (max v (max w (max x y)))) z)", true, true},
		{"(imax u (max v (max w (max x (max y z)))))", "(max (imax u v) (max (imax u w) (max (imax u x) (max (imax u y) (imax u z)))))", true, true},
		{"(imax u (max v (max w (max x (max y z)))))", "(max (imax u v) (max (imax u w) (max (imax u x) (max y (imax u z)))))", false, true},
		{"(imax (imax u v) (imax (imax w x) (imax y z)))", "(imax (max (max u v) (max w x)) (imax y z))", true, false},
		{"(imax (imax (imax (imax (imax u v) w) x) y) z)", "(imax (max u (max v (max w (max x y)))) z)", true, false},
		{"(s (s (imax u (max v (max w (imax x (imax y z)))))))", "(max (s (s v)) (max (s (s w)) (s (s (max z (imax (max x y) z))))))", false, true},
		{"(s (imax u (imax v (imax w (imax x (imax y (s z)))))))", "(max (s u) (max (s v) (max (s w) (max (s x) (max (s y) (s (s z)))))))", true, true},
	} {
		a, b := parsed(t, c.a), parsed(t, c.b)
		checkOrder(t, a, b, c.below, c.above)
		checkOrder(t, b, a, c.above, c.below)
	}
}

// madeLevel: a level of at most that many nodes, of these parameters.
func madeLevel(r *rand.Rand, nodes int, names []string) api.Level {
	if nodes < 2 || r.Intn(12) == 0 {
		if i := r.Intn(len(names) + 1); i < len(names) {
			return param(names[i])
		}
		return zero
	}
	if nodes == 2 || r.Intn(4) == 0 {
		return succ(madeLevel(r, nodes-1, names))
	}
	left := 1 + r.Intn(nodes-2)
	a, b := madeLevel(r, left, names), madeLevel(r, nodes-1-left, names)
	if r.Intn(2) == 0 {
		return greater(a, b)
	}
	return igreater(a, b)
}

// byNumbers: whether a is worth at most what b is, under all choices of these numbers for the parameters.
func byNumbers(a, b api.Level, names []string, numbers []int) bool {
	ns := make([]int, len(names))
	var try func(place int) bool
	try = func(place int) bool {
		if place == len(names) {
			return Worth(a, names, ns) <= Worth(b, names, ns)
		}
		for _, n := range numbers {
			ns[place] = n
			if !try(place + 1) {
				return false
			}
		}
		return true
	}
	return try(0)
}

func TestOrderIsWhatNumbersSay(t *testing.T) {
	r := rand.New(rand.NewSource(1))
	for count := range len(sixNames) + 1 {
		names := sixNames[:count]
		numbers := []int{0, 1, 2, 3, 14, 15}
		if count > 4 {
			numbers = []int{0, 1, 2, 14}
		}
		held := 0
		for range 400 {
			a, b := madeLevel(r, 12, names), madeLevel(r, 12, names)
			switch r.Intn(3) {
			case 0:
				b = greater(b, a)
			case 1:
				b = greater(madeLevel(r, 6, names), greater(b, igreater(a, madeLevel(r, 3, names))))
			}
			below, above := byNumbers(a, b, names, numbers), byNumbers(b, a, names, numbers)
			checkOrder(t, a, b, below, above)
			checkOrder(t, b, a, above, below)
			if below != above {
				held++
			}
		}
		if count > 0 && held < 40 {
			t.Errorf("with %d parameters only %d pairs are ordered one way: the test tells too little", count, held)
		}
	}
}

// chain: n nodes, as deep as they can be, of a kind with two arguments; deep in the first or the second one.
func chain(kind, nodes int, deepFirst bool) api.Level {
	l := param(sixNames[0])
	for i := range (nodes - 1) / 2 {
		args := []api.Level{param(sixNames[(i+1)%6]), l}
		if deepFirst {
			args[0], args[1] = args[1], args[0]
		}
		l = api.Level{Kind: kind, Args: args}
	}
	return l
}

// largest: levels of just about 300 nodes with up to six parameters.
func largest() []api.Level {
	r := rand.New(rand.NewSource(2))
	deep, deepParam := zero, param("z")
	for range 299 {
		deep, deepParam = succ(deep), succ(deepParam)
	}
	ls := []api.Level{deep, deepParam}
	for _, kind := range []int{api.Max, api.IMax} {
		ls = append(ls, chain(kind, 300, true), chain(kind, 300, false))
	}
	for len(ls) < 12 {
		if l := madeLevel(r, 300, sixNames); countNodes(l) > 100 {
			ls = append(ls, l)
		}
	}
	return ls
}

func countNodes(l api.Level) int {
	n := 1
	for _, arg := range l.Args {
		n += countNodes(arg)
	}
	return n
}

// P1: all calls end, without a panic, and answer the same again.
func TestLargestLevels(t *testing.T) {
	ls := largest()
	for _, a := range ls {
		text := Print(a)
		if again := Print(parsed(t, text)); again != text {
			t.Errorf("%.60s .. is parsed as %.60s ..", text, again)
		}
		if n := len(Params(a)); n > 6 {
			t.Errorf("%.60s .. has %d parameters", text, n)
		}
		all := make([]api.Level, 6)
		for i := range all {
			all[i] = param(sixNames[(i+1)%6])
		}
		turned := a
		for range 6 {
			turned = Subst(turned, sixNames, all)
		}
		if Print(turned) != text {
			t.Errorf("%.60s .. is another one when its parameters are turned round", text)
		}
		if got, want := Worth(Subst(a, sixNames, ls[6:]), nil, nil), Worth(a, nil, nil); got < want {
			t.Errorf("%.60s .. is worth %d, less than %d, with more in it", text, got, want)
		}
		checkOrder(t, a, a, true, true)
		checkOrder(t, a, succ(a), true, false)
		checkOrder(t, succ(a), a, false, true)
		for _, b := range ls {
			checkOrder(t, a, greater(b, a), true, Leq(b, a))
		}
	}
}

// What the layers above may ask: levels of six parameters each, and not of any number.
func TestComparable(t *testing.T) {
	of := func(from, n int) api.Level {
		l := zero
		for i := range n {
			l = api.Level{Kind: api.IMax, Args: []api.Level{param("p" + strconv.Itoa(from+i)), l}}
		}
		return l
	}
	for _, c := range []struct {
		a, b api.Level
		want bool
	}{
		{zero, zero, true}, {of(0, 6), of(0, 6), true}, {of(0, 6), of(6, 6), true}, {of(0, 12), of(6, 6), true}, {of(0, 12), zero, true},
		{of(0, 13), zero, false}, {zero, of(0, 13), false}, {of(0, 7), of(7, 6), false}, {of(0, 60), of(0, 60), false},
	} {
		if got := Comparable(c.a, c.b); got != c.want {
			t.Errorf("Comparable(%s, %s) = %v", Print(c.a), Print(c.b), got)
		}
		if c.want && !Leq(c.a, c.b) {
			t.Errorf("%s is not Leq %s", Print(c.a), Print(c.b))
		}
	}
}

func TestDeepestText(t *testing.T) {
	text := strings.Repeat("(s", 6664) + " 0" + strings.Repeat(")", 6664)
	l := parsed(t, text)
	if got := Worth(l, nil, nil); got != 6664 {
		t.Errorf("Worth = %d", got)
	}
	if got, want := Print(l), strings.Repeat("(s ", 6664)+"0"+strings.Repeat(")", 6664); got != want {
		t.Errorf("printed with %d bytes, want %d", len(got), len(want))
	}
	checkOrder(t, l, succ(l), true, false)
	checkOrder(t, Subst(l, nil, nil), l, true, true)
}

// No tree makes a call panic, though nothing else is promised of those that are not well formed.
func TestTreesThatAreNotWellFormed(t *testing.T) {
	for _, l := range []api.Level{
		{Kind: -1},
		{Kind: 5},
		{Kind: api.Succ},
		{Kind: api.Max, Args: []api.Level{u}},
		{Kind: api.IMax},
		{Kind: api.Param},
		{Kind: api.Zero, Args: []api.Level{u, {Kind: 9, Args: []api.Level{v}}}},
		{Kind: api.Param, Name: "u", Args: []api.Level{u}},
	} {
		Print(l)
		Params(l)
		Subst(l, []string{"u", "v"}, []api.Level{v})
		Subst(u, []string{"u"}, []api.Level{l})
		Worth(l, []string{"v", "u"}, []int{3})
		if !Leq(l, l) || !Same(l, l) {
			t.Errorf("%v is not the same as itself", l)
		}
	}
}
