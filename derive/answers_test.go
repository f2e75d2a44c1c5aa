package derive

import (
	"slices"
	"strings"
	"testing"

	"provekernel/api"
	"provekernel/kernel"
	"provekernel/reduce"
	"provekernel/term"
)

// seen is all that can be seen of an environment, as one text.
func seen(e *reduce.Env) string {
	var b strings.Builder
	b.WriteString(kernel.Export(e))
	for _, d := range e.Decls() {
		params, typ, _ := e.Type(reduce.Recursor(d.Name))
		b.WriteString(strings.Join(params, " ") + term.Print(typ) + "\n")
	}
	return b.String()
}

// overwrite changes all that a term is made of.
func overwrite(t *api.Term) {
	for i := range t.Args {
		overwrite(&t.Args[i])
	}
	for i := range t.Levels {
		overwriteLevel(&t.Levels[i])
	}
	t.Kind, t.N, t.Name = api.Const, 99, "overwritten"
}

func overwriteLevel(l *api.Level) {
	for i := range l.Args {
		overwriteLevel(&l.Args[i])
	}
	l.Kind, l.Name = api.Param, "overwritten"
}

func overwriteSteps(ss []api.Step) {
	for i := range ss {
		for j := range ss[i].Ctx {
			overwrite(&ss[i].Ctx[j])
		}
		overwrite(&ss[i].Term)
		overwrite(&ss[i].Type)
		for j := range ss[i].Prems {
			ss[i].Prems[j] = 99
		}
	}
}

// someTexts: right terms and wrong ones.
func someTexts() []string {
	var all []string
	for _, texts := range rightTerms {
		all = append(all, texts...)
	}
	for _, texts := range wrongTerms {
		all = append(all, texts...)
	}
	slices.Sort(all)
	return all
}

// What is handed over stays as it is, whatever becomes of the answer; and the answer stays as it is, whatever becomes of that.
func TestNothingIsChangedOrKept(t *testing.T) {
	e := world(t)
	before := seen(e)
	for _, text := range someTexts() {
		made, params := parsed(t, text), slices.Clone(levelNames)
		ss, err := Of(e, params, made, 1000)
		first := stepTexts(ss)
		if term.Print(made) != text || !slices.Equal(params, levelNames) {
			t.Fatalf("Of(%s) changes what is handed over: %s, %v", text, term.Print(made), params)
		}
		if seen(e) != before {
			t.Fatalf("Of(%s) changes the environment", text)
		}
		overwrite(&made)
		params[0] = "overwritten"
		if stepTexts(ss) != first {
			t.Errorf("Of(%s) answers what was handed over", text)
		}
		overwriteSteps(ss)
		if seen(e) != before {
			t.Fatalf("Of(%s) answers what is the environment's", text)
		}
		again, againErr := Of(e, levelNames, parsed(t, text), 1000)
		if stepTexts(again) != first || said(againErr) != said(err) {
			t.Errorf("Of(%s) again:\n%s\nat first\n%s", text, stepTexts(again), first)
		}
	}
}

// listCounts counts, of each place in a list of an answer, how often it stands there.
func listCounts(ss []api.Step) map[any]int {
	counts := map[any]int{}
	var level func(l *api.Level)
	level = func(l *api.Level) {
		for i := range l.Args {
			counts[&l.Args[i]]++
			level(&l.Args[i])
		}
	}
	var count func(t *api.Term)
	count = func(t *api.Term) {
		for i := range t.Levels {
			counts[&t.Levels[i]]++
			level(&t.Levels[i])
		}
		for i := range t.Args {
			counts[&t.Args[i]]++
			count(&t.Args[i])
		}
	}
	for i, s := range ss {
		for j := range s.Ctx {
			counts[&s.Ctx[j]]++
			count(&s.Ctx[j])
		}
		for j := range s.Prems {
			counts[&s.Prems[j]]++
		}
		count(&ss[i].Term)
		count(&ss[i].Type)
	}
	return counts
}

// No two lists of one answer are one.
func TestListsOfAnAnswer(t *testing.T) {
	e := world(t)
	texts := append(someTexts(), strings.Repeat("(app (const succ) ", 300)+"(const zero)"+strings.Repeat(")", 300), strings.Repeat("(lam (const Nat) ", 60)+"#59"+strings.Repeat(")", 60))
	for _, text := range texts {
		ss, _ := Of(e, levelNames, parsed(t, text), 1000)
		for _, n := range listCounts(ss) {
			if n > 1 {
				t.Errorf("Of(%.200s): a list stands %d times in the answer", text, n)
				break
			}
		}
	}
}

// A great answer may share its lists, but none with what was handed over; and who puts more behind one of its contexts changes
// no other.
func TestGreatAnswers(t *testing.T) {
	e := world(t)
	before := seen(e)
	made := nested(1200, joined(api.Pi, named("A"), named("A")), func(x api.Term) api.Term { return joined(api.Pi, joined(api.Pi, named("Nat"), named("N")), x) })
	kept := term.Print(made)
	ss, err := Of(e, nil, made, 1000)
	if err != nil {
		t.Fatal(said(err))
	}
	parts := 0
	for _, s := range ss {
		parts += len(s.Ctx)
	}
	if parts < mostApart/2 {
		t.Fatalf("the contexts have only %d types", parts)
	}
	for i := range ss {
		_ = append(ss[i].Ctx, named("overwritten"))
	}
	l := looker{e, nil}
	for i := 0; i < len(ss); i += 7 {
		if why := l.wrong(ss, i); why != "" {
			t.Fatalf("step %d: %.200s", i, why)
		}
	}
	for i := range ss[len(ss)-1].Type.Levels {
		overwriteLevel(&ss[len(ss)-1].Type.Levels[i])
	}
	overwrite(&ss[len(ss)-1].Term)
	if term.Print(made) != kept || seen(e) != before {
		t.Errorf("the answer shares lists with what was handed over")
	}
}
