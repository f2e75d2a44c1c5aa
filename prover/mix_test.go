package prover_test

import (
	"math/rand"
	"regexp"
	"slices"
	"strings"
	"testing"

	"provekernel/api"
	"provekernel/kernel"
	"provekernel/lib"
	"provekernel/prover"
	"provekernel/syntax"
)

// mixer makes texts of commands that are right, of which some have something else in some places.
type mixer struct {
	*rand.Rand
	tokens []string // all that stand in the library and in the book
	exprs  []string // .. and parts of these in brackets
}

var token = regexp.MustCompile(`:=|->|=>|\.\{|--|[A-Za-z][A-Za-z0-9_'.]*[A-Za-z0-9_']|[A-Za-z]|[0-9]+|\S`)

func newMixer(seed int64) *mixer {
	text := lib.Text() + book
	parts := regexp.MustCompile(`\([^()]*(\([^()]*\)[^()]*)*\)`)
	return &mixer{rand.New(rand.NewSource(seed)), token.FindAllString(text, -1), parts.FindAllString(text, -1)}
}

// changed is a line with something else in a place.
func (m *mixer) changed(line string) string {
	tokens := token.FindAllString(line, -1)
	at := 1 + m.Intn(len(tokens)-1)
	other := m.tokens[m.Intn(len(m.tokens))]
	expr := m.exprs[m.Intn(len(m.exprs))]
	switch m.Intn(10) {
	case 0:
		tokens = slices.Delete(tokens, at, at+1)
	case 1:
		tokens = slices.Insert(tokens, at, other)
	case 2:
		tokens[at-1], tokens[at] = tokens[at], tokens[at-1]
	case 3:
		tokens[at] = expr
	case 4:
		tokens = slices.Insert(tokens, at, expr)
	case 5:
		return m.punched(line)
	case 6, 7:
		name := regexp.MustCompile(`^[A-Za-z]`)
		for range 20 {
			if name.MatchString(tokens[at]) && name.MatchString(other) {
				break
			}
			at, other = 1+m.Intn(len(tokens)-1), m.tokens[m.Intn(len(m.tokens))]
		}
		tokens[at] = other
	case 8:
		tokens[at] = []string{"_", "Prop", "Type", "Sort u", "@" + tokens[at], tokens[at] + ".{0}", tokens[at] + ".{u+1}", "(" + tokens[at] + " : _)"}[m.Intn(8)]
	default:
		tokens[at] = other
	}
	return strings.Join(tokens, " ")
}

// punched is a line with a hole in the place of a part in brackets.
func (m *mixer) punched(line string) string {
	parts := regexp.MustCompile(`\([^():]*(\([^():]*\)[^():]*)*\)`).FindAllStringIndex(line, -1)
	if len(parts) == 0 {
		return line
	}
	part := parts[m.Intn(len(parts))]
	return line[:part[0]] + "_" + line[part[1]:]
}

// text is the book with some lines changed, left out, or in another order; mostly behind the library.
func (m *mixer) text() string {
	all := lines()
	if m.Intn(2) == 0 {
		for i := range all {
			if m.Intn(4) == 0 {
				all = slices.Delete(all, i, i+1)
				break
			}
		}
	}
	for range m.Intn(3) {
		i := m.Intn(len(all))
		all[i] = m.changed(all[i])
	}
	if m.Intn(3) == 0 {
		m.Shuffle(len(all), func(i, j int) { all[i], all[j] = all[j], all[i] })
	}
	return lib.Text() + strings.Join(all, "\n")
}

// one is the library and a line of the book behind all those ahead of it, changed: most often so that it is a text.
func (m *mixer) one() string {
	all := lines()
	at := m.Intn(len(all))
	ahead := lib.Text() + strings.Join(all[:at], "\n") + "\n"
	for {
		line := m.changed(all[at])
		for m.Intn(3) == 0 {
			line = m.changed(line)
		}
		if _, err := syntax.Parse(line); err == nil || m.Intn(20) == 0 {
			return ahead + line
		}
	}
}

// tells tests what a report says of a text: as many commands as it says were added, and they are what the text says; the fault is
// at a place of the next one.
func tells(t *testing.T, text string, r prover.Report) {
	t.Helper()
	cs, err := syntax.Parse(text)
	if err != nil {
		if r.Added != 0 || r.Names != nil || r.Text != "" || shown(r.Err) != shown(err) {
			t.Errorf("%s, which is no text, %s: %v", shortened(text), shown(err), r)
		}
		return
	}
	code, at := api.Code(r.Err)
	switch {
	case r.Added > len(cs), (r.Added == len(cs)) != (code == 0):
		t.Errorf("%s: %d of %d added, %s", shortened(text), r.Added, len(cs), shown(r.Err))
		return
	case code == 0:
	case code < 0, code == api.FText, code == api.FLong, code > api.FTactic, at < cs[r.Added].At, r.Added+1 < len(cs) && at >= cs[r.Added+1].At, at >= len(text):
		t.Errorf("%s: %d added, %s", shortened(text), r.Added, shown(r.Err))
	}
	e, _, err := kernel.File(r.Text, plenty)
	if err != nil {
		t.Errorf("%s: what is exported is not right: %s", shortened(text), shown(err))
		return
	}
	all := signs{}
	for i, d := range e.Decls() {
		all.add(&cs[i])
		if cs[i].Name != r.Names[i] || !all.saysCommand(&cs[i], &d) {
			t.Errorf("%s: %s becomes something else", shortened(text), cs[i].Name)
		}
	}
}

// Texts of which something is another: what is added is what the text says, and all holds that comes of it.
func TestMixed(t *testing.T) {
	t.Parallel()
	library := len(parsed(t, lib.Text()))
	said := map[string]int{}
	for seed := range int64(120) {
		m := newMixer(seed)
		text := m.text()
		if seed%5 > 0 {
			text = m.one()
		}
		fuel := []int{3000, 3000, 300, 100000}[m.Intn(4)]
		r := prover.Process(text, fuel)
		said[codeOf(r.Err)]++
		tells(t, text, r)
		if r.Added > 0 {
			holds(t, shortened(text), r, fuel, max(library, r.Added-3))
		}
	}
	for _, what := range []string{"right", "FText", "FName", "FArg", "FFun", "FStuck", "FTactic"} {
		if said[what] == 0 {
			t.Errorf("%s was never said: %v", what, said)
		}
	}
}
