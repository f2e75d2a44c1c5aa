package notation

import (
	"strconv"
	"strings"

	"provekernel/api"
)

// termShape of a term in brackets: the word that it begins with, whether a name follows, how many levels, how many terms.
type termShape struct {
	word   string
	named  bool
	levels int
	terms  int
}

// anyNumber of levels: as many as stand there.
const anyNumber = -1

// termShapes, by kind; a kind without a word stands without brackets.
var termShapes = [...]termShape{
	api.Var:   {},
	api.Sort:  {word: "sort", levels: 1},
	api.Const: {word: "const", named: true, levels: anyNumber},
	api.App:   {word: "app", terms: 2},
	api.Lam:   {word: "lam", terms: 2},
	api.Pi:    {word: "pi", terms: 2},
	api.Let:   {word: "let", terms: 3},
}

// Term reads one term.
func (s *Scanner) Term() api.Term {
	t := s.Expect(Open, Index)
	if t.Kind == Open {
		return s.termInBrackets()
	}
	n, _ := number(t.Text[1:], greatestIndex)
	return api.Term{Kind: api.Var, N: n}
}

// termInBrackets reads what follows a term's opening bracket.
func (s *Scanner) termInBrackets() api.Term {
	t := api.Term{Kind: s.Word(termKind)}
	shape := termShapes[t.Kind]
	if shape.named {
		t.Name = s.Name()
	}
	t.Levels = s.levels(shape.levels)
	for range shape.terms {
		t.Args = append(t.Args, s.Term())
	}
	s.Expect(Close)
	return t
}

// levels reads that many levels, or as many as stand ahead of the closing bracket.
func (s *Scanner) levels(n int) []api.Level {
	var ls []api.Level
	for len(ls) < n || n == anyNumber && !s.Before(Close) {
		ls = append(ls, s.Level())
	}
	return ls
}

// termKind is the kind of term that begins with that word behind a bracket; 0 if none does.
func termKind(word string) int {
	for kind, shape := range termShapes {
		if shape.word == word {
			return kind
		}
	}
	return 0
}

// WriteTerm writes a term as it is printed. One of an unknown kind is written as a variable, so that no tree makes it panic.
func WriteTerm(b *strings.Builder, t api.Term) {
	var shape termShape
	if 0 <= t.Kind && t.Kind < len(termShapes) {
		shape = termShapes[t.Kind]
	}
	if shape.word == "" {
		b.WriteByte('#')
		b.WriteString(strconv.Itoa(t.N))
		return
	}
	b.WriteByte('(')
	b.WriteString(shape.word)
	if shape.named {
		b.WriteByte(' ')
		b.WriteString(t.Name)
	}
	for _, l := range t.Levels {
		b.WriteByte(' ')
		WriteLevel(b, l)
	}
	for _, arg := range t.Args {
		b.WriteByte(' ')
		WriteTerm(b, arg)
	}
	b.WriteByte(')')
}
