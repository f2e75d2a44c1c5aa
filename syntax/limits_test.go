package syntax

import (
	"math/rand"
	"reflect"
	"runtime/debug"
	"slices"
	"strings"
	"testing"
	"unsafe"

	"provekernel/api"
)

func TestLongTexts(t *testing.T) {
	const command = "axiom a : A."
	if longestText != 200000 {
		t.Errorf("a text may have %d bytes", longestText)
	}
	for _, blank := range []string{" ", "\n", "-"} {
		ahead := strings.Repeat(blank, longestText-len(command))
		if blank == "-" {
			ahead = ahead[1:] + "\n"
		}
		if cs := parsed(t, ahead+command); len(cs) != 1 || cs[0].At != longestText-len(command) {
			t.Errorf("a text of %d bytes: %d commands", longestText, len(cs))
		}
		for _, text := range []string{ahead + command + " ", ahead + command + "&", ahead + "&" + command} {
			cs, err := Parse(text)
			if code, at := api.Code(err); code != api.FLong || at != 0 || cs != nil {
				t.Errorf("a text of %d bytes: fault %d at %d, %d commands", len(text), code, at, len(cs))
			}
		}
	}
	full := strings.Repeat(command, 20) + "\n"
	full = strings.Replace(full, "A.a", "A. a", -1)
	many := strings.Repeat(full, longestText/len(full))
	cs := parsed(t, many)
	if len(cs) != 20*(longestText/len(full)) {
		t.Errorf("%d commands of %d bytes", len(cs), len(many))
	}
	if text := Print(cs); len(text) <= len(many)-len(full) || text != strings.Repeat(command+"\n", len(cs)) {
		t.Errorf("they are printed as %d bytes", len(text))
	}
}

// nested is a text of that length or a little less: a part as often as can be, a middle, what closes it as often.
func nested(length int, begin, part, middle, closing, ending string) string {
	n := (length - len(begin+middle+ending)) / (len(part) + len(closing))
	return begin + strings.Repeat(part, n) + middle + strings.Repeat(closing, n) + ending
}

// Texts that nest as deep as can be, whole and broken off, with less of the stack than the language gives.
func TestDeepTexts(t *testing.T) {
	defer debug.SetMaxStack(debug.SetMaxStack(400 << 20))
	for _, c := range []struct{ begin, part, middle, closing, ending string }{
		{"axiom a:", "(", "a", ")", "."},
		{"axiom a:", "a(", "a", ")", "."},
		{"axiom a:", "a=(", "a", ")", "."},
		{"axiom a:", "(", "a", ")a", "."},
		{"axiom a:", "(", "a", ":a)", "."},
		{"axiom a:", "(a:", "a", ")", "."},
		{"axiom a:", "a->", "a", "", "."},
		{"axiom a:", "(", "a", "->a)", "."},
		{"axiom a:", "fun a=>", "a", "", "."},
		{"axiom a:", "fun(a:", "a", ")=>a", "."},
		{"axiom a:", "fun{a:", "a", "}=>a", "."},
		{"axiom a:", "forall(a:a),", "a", "", "."},
		{"axiom a:", "forall(a:", "a", "),a", "."},
		{"axiom a:", "let a:a:=a in ", "a", "", "."},
		{"axiom a:", "let a:a:=", "a", " in a", "."},
		{"axiom a:", "let a:", "a", ":=a in a", "."},
		{"axiom a:Sort ", "(", "u", ")", "."},
		{"axiom a:Sort ", "(max u", "(u)", ")", "."},
		{"axiom a:Sort ", "(imax", "(u)", "u)", "."},
		{"axiom a:Sort(", "(", "u", ")+0", ")."},
		{"axiom a", "(a:a)", ":a", "", "."},
		{"axiom a:a", " a", "", "", "."},
		{"axiom a:a.{u", ",u", "}", "", "."},
		{"inductive a:a", "|a:a", "", "", "."},
		{"theorem a:a by refl", ";refl", "", "", "."},
		{"theorem a:a by intro a", " a", "", "", "."},
	} {
		text := nested(longestText, c.begin, c.part, c.middle, c.closing, c.ending)
		if again := Print(parsed(t, text)); again == "" {
			t.Errorf("%.40q.. is printed as nothing", text)
		}
		for _, broken := range []string{text[:len(text)-len(c.ending)], text[:len(text)/2], (c.begin + strings.Repeat(c.part, longestText))[:longestText]} {
			if _, err := Parse(broken); err == nil {
				t.Errorf("%.40q.. is whole without its end", broken)
			}
		}
		again := Print(parsed(t, nested(longestText/4, c.begin, c.part, c.middle, c.closing, c.ending)))
		if Print(parsed(t, again)) != again {
			t.Errorf("%.40q.. is read again as something else", text)
		}
	}
}

// Any bytes are a text, or are refused at a byte of them or at their end.
func TestAnyBytes(t *testing.T) {
	r := rand.New(rand.NewSource(9))
	signs := strings.Fields("axiom def theorem inductive fun forall let in by Type Prop Sort max imax intro exact have constructor a b.c 0 7 99 100 . .{ : := = => -> -- ( ) { } , ; | @ _ + ' & \x00 \xff é \n")
	for range 20000 {
		var b strings.Builder
		for range r.Intn(30) {
			switch r.Intn(8) {
			case 0:
				b.WriteByte(byte(r.Intn(256)))
			case 1:
				b.WriteByte(' ')
			default:
				b.WriteString(signs[r.Intn(len(signs))])
				b.WriteString([]string{" ", ""}[r.Intn(2)])
			}
		}
		text := b.String()
		cs, err := Parse(text)
		code, at := api.Code(err)
		if err != nil && (code != api.FText || at < 0 || at > len(text) || cs != nil) {
			t.Fatalf("%q: fault %d at %d, %d commands", text, code, at, len(cs))
		}
		if err == nil {
			printedAgain(t, cs)
		}
	}
	for _, c := range []byte{0, '(', ')', '.', '-', '@', 'a', '0', '_', '{', 0xff} {
		for _, begin := range []string{"", "axiom a : ", "axiom a.{", "axiom a : a.{", "theorem a : a by "} {
			Parse((begin + strings.Repeat(string([]byte{c}), longestText))[:longestText])
		}
	}
}

// span of memory of a list.
type span struct{ from, to uintptr }

// spans collects those of all the lists of an answer, with all that may be appended to them in place.
type spans []span

func collect[T any](all *spans, list []T) {
	var one T
	if cap(list) > 0 {
		from := uintptr(unsafe.Pointer(unsafe.SliceData(list)))
		*all = append(*all, span{from, from + uintptr(cap(list))*unsafe.Sizeof(one)})
	}
}

func (all *spans) expr(e api.Expr) {
	collect(all, e.Levels)
	for _, l := range e.Levels {
		all.level(l)
	}
	collect(all, e.Args)
	for _, arg := range e.Args {
		all.expr(arg)
	}
}

func (all *spans) level(l api.Level) {
	collect(all, l.Args)
	for _, arg := range l.Args {
		all.level(arg)
	}
}

func (all *spans) commands(cs []api.Command) {
	collect(all, cs)
	for _, c := range cs {
		collect(all, c.Params)
		collect(all, c.Binders)
		collect(all, c.Tactics)
		collect(all, c.Ctors)
		for _, b := range c.Binders {
			all.expr(b.Type)
		}
		for _, x := range c.Tactics {
			collect(all, x.Names)
			collect(all, x.Exprs)
			for _, e := range x.Exprs {
				all.expr(e)
			}
		}
		for _, ctor := range c.Ctors {
			all.expr(ctor.Type)
		}
		all.expr(c.Type)
		all.expr(c.Value)
	}
}

// No two lists of one answer share memory: several names of a binder have types of their own.
func TestNothingIsShared(t *testing.T) {
	texts := []string{
		"axiom a (x y z : f (g h) = Sort (max u (v+1))) {v w : h.{u+2, v}} : A.",
		"def a : forall (x y : forall (z w : A -> B), C) {u v : (a : B)}, D := fun (x y : fun (z w : f a) => Type 3) z => let x : A := B in _.",
	}
	for seed := range 300 {
		d := newDrawn(seed)
		d.commands(2)
		texts = append(texts, d.text.String())
	}
	for _, text := range texts {
		cs := parsed(t, text)
		var all spans
		all.commands(cs)
		slices.SortFunc(all, func(a, b span) int { return int(a.from) - int(b.from) })
		for i := range all[1:] {
			if all[i].to > all[i+1].from {
				t.Fatalf("two lists of what %q becomes share memory", text)
			}
		}
	}
}

// What is handed over is only read, and what is answered hangs on it alone.
func TestPrintOnlyReads(t *testing.T) {
	for seed := range 300 {
		d := newDrawn(seed)
		cs := d.commands(2)
		twin := newDrawn(seed).commands(2)
		first := Print(cs)
		if second := Print(cs); first != second || !reflect.DeepEqual(cs, twin) {
			t.Fatalf("seed %d: printing changes what is printed", seed)
		}
		Parse(first)
		if !reflect.DeepEqual(parsed(t, d.text.String()), parsed(t, d.text.String())) {
			t.Fatalf("seed %d: parsed twice, a text becomes two trees", seed)
		}
	}
}

// Binders of two names within one another's types spell a tree that no memory holds, in a short text: it is parsed, and
// printing it ends.
func TestBindersWithinBinders(t *testing.T) {
	for _, n := range []int{1, 5, 12} {
		cs := parsed(t, twofold(n))
		text := Print(cs)
		if strings.Count(text, "forall") != 1<<(n+1)-2 {
			t.Errorf("%d binders within one another are printed as %d bytes", n, len(text))
		}
	}
	cs := parsed(t, twofold(12000))
	if text := Print(cs); text != "" {
		t.Errorf("%d bytes are printed", len(text))
	}
	cs = parsed(t, "axiom a : forall ("+strings.Repeat("a ", 3000)+": f"+strings.Repeat(" a", 3000)+"), a.")
	if text := Print(cs); strings.Count(text, "forall (a : f") != 3000 {
		t.Errorf("3000 names of one binder are printed as %d bytes", len(text))
	}
}

// Texts that come again and again, in brackets and without, at the end of a long text: they are what they were the first time.
func TestLongTextsAgain(t *testing.T) {
	for _, c := range []struct {
		n       int
		in, out func(t string) string
	}{
		{n: 18, in: func(t string) string { return "fun {x y : f (" + t + ") -> @g} => A" },
			out: func(t string) string {
				return "fun {x : f (" + t + ") -> @g} => fun {y : f (" + t + ") -> @g} => A"
			}},
		{n: 12, in: func(t string) string { return "forall {x y z : (" + t + ") = B}, (A : B)" },
			out: func(t string) string {
				return "forall {x : (" + t + ") = B}, forall {y : (" + t + ") = B}, forall {z : (" + t + ") = B}, (A : B)"
			}},
	} {
		in, out := "fun (w : A) => A", "fun (w : A) => A"
		for range c.n {
			in, out = c.in(in), c.out(out)
		}
		if len(out) < 2*keptFrom {
			t.Errorf("%d bytes are not long", len(out))
		}
		in, out = "axiom a (b c : "+in+") : "+in+".", "axiom a (b : "+out+") (c : "+out+") : "+out+".\n"
		cs := parsed(t, in)
		if Print(cs) != out {
			t.Errorf("%.60s.. within one another are printed otherwise than they are written", in)
		}
	}
}

// twofold is a text of that many binders, each of two names, each in the type of the one around it.
func twofold(n int) string {
	return "axiom a:" + strings.Repeat("forall(a b:", n) + "A" + strings.Repeat("),A", n) + "."
}

// A tree that is a part of itself is nothing that can be printed; that it cannot is told.
func TestPrintEnds(t *testing.T) {
	loop := api.Expr{Kind: api.XApply, Args: make([]api.Expr, 2)}
	loop.Args[0] = loop
	within := api.Expr{Kind: api.XIs, Args: make([]api.Expr, 2)}
	within.Args[1] = within
	level := api.Level{Kind: api.Succ, Args: make([]api.Level, 1)}
	level.Args[0] = level
	long := api.Expr{Kind: api.XName, Name: strings.Repeat("a", 2000)}
	for _, e := range []api.Expr{loop, within, {Kind: api.XSort, Levels: []api.Level{level}}, long} {
		func() {
			defer func() {
				if thrown, ok := recover().(*api.Fault); !ok || thrown.Code != api.FTired {
					t.Errorf("%v is thrown", thrown)
				}
			}()
			newPrinter(2000, 2000).command(&api.Command{Kind: api.CAxiom, Name: "a", Type: e})
		}()
	}
}

// Trees much deeper than any text's.
func TestPrintDeepTrees(t *testing.T) {
	defer debug.SetMaxStack(debug.SetMaxStack(64 << 20))
	const deep = 1 << 20
	left, right := api.Expr{Kind: api.XName, Name: "a"}, api.Expr{Kind: api.XName, Name: "a"}
	for range deep {
		left = api.Expr{Kind: api.XApply, Args: []api.Expr{left, {Kind: api.XHole}}}
		right = api.Expr{Kind: api.XForall, Args: []api.Expr{{Kind: api.XHole}, right}}
	}
	if text := Print([]api.Command{{Kind: api.CAxiom, Name: "a", Type: left}}); text != "axiom a : a"+strings.Repeat(" _", deep)+".\n" {
		t.Errorf("%d arguments are printed as %d bytes", deep, len(text))
	}
	if text := Print([]api.Command{{Kind: api.CAxiom, Name: "a", Type: right}}); text != "axiom a : "+strings.Repeat("_ -> ", deep)+"a.\n" {
		t.Errorf("%d arrows are printed as %d bytes", deep, len(text))
	}
}
