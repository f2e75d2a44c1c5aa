package small

import (
	"math/rand"
	"testing"

	"provekernel/api"
)

var names = []string{"u", "v", "w", "x", "y", "z"}

// drawn is a level of at most that many nodes, of these parameters.
func drawn(r *rand.Rand, nodes int, names []string) api.Level {
	if nodes < 2 || r.Intn(12) == 0 {
		if i := r.Intn(len(names) + 1); i < len(names) {
			return api.Level{Kind: api.Param, Name: names[i]}
		}
		return api.Level{}
	}
	if nodes == 2 || r.Intn(4) == 0 {
		return api.Level{Kind: api.Succ, Args: []api.Level{drawn(r, nodes-1, names)}}
	}
	left := 1 + r.Intn(nodes-2)
	return api.Level{Kind: api.Max + r.Intn(2), Args: []api.Level{drawn(r, left, names), drawn(r, nodes-1-left, names)}}
}

// worth is what a level is worth under numbers, by the document's words.
func worth(l api.Level, numbers map[string]int) int {
	switch l.Kind {
	case api.Succ:
		return worth(l.Args[0], numbers) + 1
	case api.Max:
		return max(worth(l.Args[0], numbers), worth(l.Args[1], numbers))
	case api.IMax:
		last := worth(l.Args[1], numbers)
		if last == 0 {
			return 0
		}
		return max(worth(l.Args[0], numbers), last)
	case api.Param:
		return numbers[l.Name]
	}
	return 0
}

// below tells whether a is worth at most what b is, under all choices of these numbers.
func below(a, b api.Level, names []string, choices []int) bool {
	numbers := map[string]int{}
	var try func(names []string) bool
	try = func(names []string) bool {
		if len(names) == 0 {
			return worth(a, numbers) <= worth(b, numbers)
		}
		for _, n := range choices {
			numbers[names[0]] = n
			if !try(names[1:]) {
				return false
			}
		}
		return true
	}
	return try(names)
}

// ranked is a level of a looker's declaration.
func (l *looker) ranked(level api.Level) *rank { return l.rank(l.level(&level), l.own.levels) }

func TestRanksAreWhatNumbersSay(t *testing.T) {
	r := rand.New(rand.NewSource(1))
	for count := range len(names) + 1 {
		choices := []int{0, 1, 2, 3, 14, 15}
		if count > 4 {
			choices = []int{0, 1, 2, 14}
		}
		l := newLooker(newWorld(0), names[:count])
		ordered := 0
		for range 300 {
			a, b := drawn(r, 12, names[:count]), drawn(r, 12, names[:count])
			if r.Intn(2) == 0 {
				b = api.Level{Kind: api.Max, Args: []api.Level{b, a}}
			}
			up, down := below(a, b, names[:count], choices), below(b, a, names[:count], choices)
			x, y := l.ranked(a), l.ranked(b)
			if x.leq(y) != up || y.leq(x) != down || x.same(y) != (up && down) {
				t.Errorf("%v and %v: %v, %v, %v; want %v, %v", a, b, x.leq(y), y.leq(x), x.same(y), up, down)
			}
			if up != down {
				ordered++
			}
		}
		if count > 0 && ordered < 30 {
			t.Errorf("with %d parameters only %d pairs are ordered one way", count, ordered)
		}
	}
}

// What stands for the parameters of a level: the level is worth what it is with these put in.
func TestRanksOfOtherLevels(t *testing.T) {
	r := rand.New(rand.NewSource(2))
	l := newLooker(newWorld(0), names[:3])
	for range 1000 {
		level := drawn(r, 10, names)
		var put []api.Level
		g := &leveling{params: names}
		for range names {
			put = append(put, drawn(r, 6, names[:3]))
			g.ranks = append(g.ranks, l.ranked(put[len(put)-1]))
		}
		if got, want := l.rank(l.level(&level), g), l.ranked(replaced(level, put)); !got.same(want) {
			t.Errorf("%v with %v is worth %v, want %v", level, put, got.found(), want.found())
		}
		from, to := l.ranked(put[0]), l.ranked(put[1])
		if !over(from, to).same(l.ranked(api.Level{Kind: api.IMax, Args: put[:2]})) || !above(from).same(l.ranked(api.Level{Kind: api.Succ, Args: put[:1]})) {
			t.Errorf("the level over %v, %v, or above the first", put[0], put[1])
		}
	}
	if zero := l.number(0); !zero.leq(l.number(1)) || l.number(1).leq(zero) {
		t.Errorf("0 and 1")
	}
}

func replaced(l api.Level, put []api.Level) api.Level {
	if l.Kind == api.Param {
		for i, name := range names {
			if name == l.Name {
				return put[i]
			}
		}
	}
	made := api.Level{Kind: l.Kind}
	for _, arg := range l.Args {
		made.Args = append(made.Args, replaced(arg, put))
	}
	return made
}

// Levels that are written the same: they are so where their parameters stand for the same, in whatever order these are told.
func TestLevelsThatAreWrittenTheSame(t *testing.T) {
	l := newLooker(newWorld(0), names[:2])
	u, v := l.own.levels.ranks[0], l.own.levels.ranks[1]
	param := func(name string) api.Level { return api.Level{Kind: api.Param, Name: name} }
	level := api.Level{Kind: api.IMax, Args: []api.Level{param("u"), param("v")}}
	in := func(params []string, ranks ...*rank) *rank { return l.rank(l.level(&level), &leveling{params, ranks}) }
	forth, back := []string{"u", "v"}, []string{"v", "u"}
	for _, c := range []struct {
		a, b *rank
		want bool
	}{
		{in(forth, u, v), in(forth, u, v), true}, {in(forth, u, v), in(back, v, u), true}, {in(forth, u, v), in(back, u, v), false}, {in(forth, u, v), in(forth, v, u), false}, {in(forth, u, u), in(back, u, u), true},
		{in(forth, u, u), in(forth, u, l.ranked(param("u"))), true}, {in(forth, u, above(v)), in(forth, u, above(v)), true}, {in(forth, u, above(v)), in(forth, u, above(u)), false},
	} {
		if got := c.a.same(c.b); got != c.want || c.b.same(c.a) != c.want {
			t.Errorf("%v and %v: %v", c.a.found(), c.b.found(), got)
		}
	}
}

// There are as many points as are told, and each parameter has a number at each.
func TestPoints(t *testing.T) {
	for params, want := range []int{1, 3, 8, 20, 48, 112, 256} {
		if got := pointsOf(params); got != want {
			t.Errorf("%d parameters: %d points, want %d", params, got, want)
		}
		for _, numbers := range numbersOf(params) {
			if len(numbers) != want {
				t.Errorf("%d parameters: %d numbers, want %d", params, len(numbers), want)
			}
		}
	}
}
