package level

import (
	"reflect"
	"slices"
	"strings"
	"testing"

	"provekernel/api"
)

var (
	zero = api.Level{Kind: api.Zero}
	u, v = param("u"), param("v")
)

func param(name string) api.Level { return api.Level{Kind: api.Param, Name: name} }

func succ(a api.Level) api.Level { return api.Level{Kind: api.Succ, Args: []api.Level{a}} }

func greater(a, b api.Level) api.Level { return api.Level{Kind: api.Max, Args: []api.Level{a, b}} }

func igreater(a, b api.Level) api.Level {
	return api.Level{Kind: api.IMax, Args: []api.Level{a, b}}
}

func parsed(t *testing.T, text string) api.Level {
	t.Helper()
	l, err := Parse(text)
	if err != nil {
		code, at := api.Code(err)
		t.Fatalf("Parse(%q): fault %d at %d", text, code, at)
	}
	return l
}

func TestParseMakesTrees(t *testing.T) {
	for _, c := range []struct {
		text string
		want api.Level
	}{
		{"0", zero},
		{"u", u},
		{"(s 0)", succ(zero)},
		{"(max u v)", greater(u, v)},
		{"(imax u v)", igreater(u, v)},
		{"(imax (s u) (max 0 (s (s v))))", igreater(succ(u), greater(zero, succ(succ(v))))},
		{"\t\n (\n s\tu )\n", succ(u)},
		{"(s(max(s 0)u))", succ(greater(succ(zero), u))},
		{"(max 0u)", greater(zero, u)},
		{"(max u(s v))", greater(u, succ(v))},
		{"s", param("s")},
		{"(max imax max)", greater(param("imax"), param("max"))},
		{"a0", param("a0")},
		{"_", param("_")},
		{"_9.'Zz", param("_9.'Zz")},
		{"a.b'c_D.", param("a.b'c_D.")},
	} {
		if got := parsed(t, c.text); !reflect.DeepEqual(got, c.want) {
			t.Errorf("Parse(%q) = %v, want %v", c.text, got, c.want)
		}
	}
}

func TestParseFaults(t *testing.T) {
	for _, c := range []struct {
		text string
		at   int
	}{
		{"", 0},
		{" \t\n", 3},
		{"(", 1},
		{"( ", 2},
		{"(s", 2},
		{"(s ", 3},
		{"(s u", 4},
		{"(s u ", 5},
		{"(max u", 6},
		{"(max u v", 8},
		{")", 0},
		{"()", 1},
		{"(s)", 2},
		{"(s u v)", 5},
		{"(max u)", 6},
		{"(max u v w)", 9},
		{"(imax)", 5},
		{"(imax u)", 7},
		{"(imax u v (s 0))", 10},
		{"(u)", 1},
		{"(S u)", 1},
		{"(ss u)", 1},
		{"(s0)", 1},
		{"(maxu v)", 1},
		{"(0)", 1},
		{"((s u))", 1},
		{"u v", 2},
		{"u 0", 2},
		{"0u", 1},
		{"0 0", 2},
		{"u)", 1},
		{"u(", 1},
		{"(s u))", 5},
		{"00", 0},
		{"12", 0},
		{"1", 0},
		{" 01", 1},
		{"(s 00)", 3},
		{"(max 0 9)", 7},
		{"#0", 0},
		{"(s #0)", 3},
		{"u,", 1},
		{"u-v", 1},
		{"0.a", 1},
		{"'u", 0},
		{".u", 0},
		{"(s \r0)", 3},
		{"u\x00", 1},
		{"\xff", 0},
		{"(s é)", 3},
		{"u é", 2},
		{"(t é)", 1},
	} {
		checkFault(t, c.text, api.FText, c.at)
	}
}

// checkFault: Parse tells that fault, and with it the zero Level.
func checkFault(t *testing.T, text string, code, at int) {
	t.Helper()
	l, err := Parse(text)
	gotCode, gotAt := api.Code(err)
	if gotCode != code || gotAt != at {
		t.Errorf("Parse(%.40q): fault %d at %d, want %d at %d", text, gotCode, gotAt, code, at)
	}
	if !reflect.DeepEqual(l, api.Level{}) {
		t.Errorf("Parse(%.40q): with a fault %v", text, l)
	}
}

func TestNamesHaveAtMost40Bytes(t *testing.T) {
	name := "a" + strings.Repeat("b.'9_", 7) + "Zzzz"
	if len(name) != 40 {
		t.Fatalf("the test's name has %d bytes", len(name))
	}
	for _, text := range []string{name, "(s " + name + ")", "(max " + name + " " + name + ")"} {
		if got := Print(parsed(t, text)); got != text {
			t.Errorf("Parse(%q) is printed as %q", text, got)
		}
	}
	long := name + "x"
	checkFault(t, long, api.FText, 0)
	checkFault(t, "(s "+long+")", api.FText, 3)
	checkFault(t, "(max "+name+" "+long+")", api.FText, 46)
	checkFault(t, "("+long+" u)", api.FText, 1)
	checkFault(t, strings.Repeat("x", 20000), api.FText, 0)
}

func TestTextsHaveAtMost20000Bytes(t *testing.T) {
	for _, text := range []string{
		strings.Repeat(" ", 19999) + "u",
		"u" + strings.Repeat("\n", 19999),
		"(max" + strings.Repeat("\t", 19991) + "0 0)" + " ",
	} {
		if len(text) != 20000 {
			t.Fatalf("the test's text has %d bytes", len(text))
		}
		parsed(t, text)
		checkFault(t, text+" ", api.FLong, 0)
	}
	checkFault(t, strings.Repeat("#", 20001), api.FLong, 0)
	checkFault(t, strings.Repeat("#", 20000), api.FText, 0)
	checkFault(t, strings.Repeat(" ", 20000), api.FText, 20000)
	checkFault(t, strings.Repeat("(s ", 6666)+"0 ", api.FText, 20000)
}

func TestPrint(t *testing.T) {
	for _, c := range []struct {
		l    api.Level
		want string
	}{
		{zero, "0"},
		{u, "u"},
		{succ(zero), "(s 0)"},
		{greater(u, v), "(max u v)"},
		{igreater(greater(v, zero), succ(param("a.b'"))), "(imax (max v 0) (s a.b'))"},
		{succ(succ(succ(param("s")))), "(s (s (s s)))"},
	} {
		got := Print(c.l)
		if got != c.want {
			t.Errorf("Print is %q, want %q", got, c.want)
		}
		if again := parsed(t, got); !reflect.DeepEqual(again, c.l) {
			t.Errorf("%q is parsed as %v", got, again)
		}
	}
}

func TestParams(t *testing.T) {
	for _, c := range []struct {
		text string
		want []string
	}{
		{"0", nil},
		{"(max (s 0) (imax 0 0))", nil},
		{"u", []string{"u"}},
		{"(max u u)", []string{"u"}},
		{"(max v u)", []string{"v", "u"}},
		{"(imax (max v u) (s (max u w)))", []string{"v", "u", "w"}},
		{"(imax (imax z (s y)) (max (max x z) (imax y a)))", []string{"z", "y", "x", "a"}},
		{"(max (s s) (imax max s))", []string{"s", "max"}},
	} {
		if got := Params(parsed(t, c.text)); !slices.Equal(got, c.want) {
			t.Errorf("Params(%s) = %v, want %v", c.text, got, c.want)
		}
	}
}

func TestSubst(t *testing.T) {
	for _, c := range []struct {
		text   string
		params []string
		levels []string
		want   string
	}{
		{"0", []string{"u"}, []string{"v"}, "0"},
		{"u", nil, nil, "u"},
		{"u", []string{"u"}, []string{"(s u)"}, "(s u)"},
		{"(max u v)", []string{"u", "v"}, []string{"v", "u"}, "(max v u)"},
		{"(max u w)", []string{"v"}, []string{"0"}, "(max u w)"},
		{"(imax u (s w))", []string{"u"}, []string{"(max a b)"}, "(imax (max a b) (s w))"},
		{"(imax (max v u) (s (max u w)))", []string{"u", "v", "u"}, []string{"(s v)", "0", "w"}, "(imax (max 0 (s v)) (s (max (s v) w)))"},
		{"(max u u)", []string{"w", "u", "u", "u"}, []string{"a", "b", "c", "d"}, "(max b b)"},
	} {
		l := parsed(t, c.text)
		var ls []api.Level
		for _, text := range c.levels {
			ls = append(ls, parsed(t, text))
		}
		if got := Print(Subst(l, c.params, ls)); got != c.want {
			t.Errorf("Subst of %s is %s, want %s", c.text, got, c.want)
		}
		if got := Print(l); got != c.text {
			t.Errorf("Subst changes %s to %s", c.text, got)
		}
		for i, text := range c.levels {
			if got := Print(ls[i]); got != text {
				t.Errorf("Subst changes %s to %s", text, got)
			}
		}
	}
}

// overwrite: every list of a level is filled with other levels, from within.
func overwrite(l api.Level) {
	for i := range l.Args {
		overwrite(l.Args[i])
		l.Args[i] = param("overwritten")
	}
}

func TestSubstAnswersNewLists(t *testing.T) {
	const text, put = "(max (max u (s v)) (imax u (s 0)))", "(max (s a) b)"
	l, ls := parsed(t, text), []api.Level{parsed(t, put)}
	overwrite(Subst(l, []string{"u"}, ls))
	if got := Print(l); got != text {
		t.Errorf("the answer shares a list with the level: %s", got)
	}
	if got := Print(ls[0]); got != put {
		t.Errorf("the answer shares a list with what was put in: %s", got)
	}
	overwrite(Subst(l, nil, nil))
	if got := Print(l); got != text {
		t.Errorf("the answer shares a list with the level, where all stays: %s", got)
	}
	twice := Subst(greater(u, u), []string{"u"}, ls)
	overwrite(twice.Args[0])
	if got := Print(twice.Args[1]); got != put {
		t.Errorf("two lists of one answer are shared: %s", got)
	}
}

func TestParamsAnswersNewLists(t *testing.T) {
	l := greater(u, v)
	first := Params(l)
	first[0] = "overwritten"
	if got := Params(l); !slices.Equal(got, []string{"u", "v"}) {
		t.Errorf("Params = %v", got)
	}
}
