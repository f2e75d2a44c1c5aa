package notation

import (
	"strings"

	"provekernel/api"
)

// levelShape of a level in brackets: the word that it begins with, how many levels follow.
type levelShape struct {
	word  string
	parts int
}

// levelShapes, by kind; a kind without a word stands without brackets.
var levelShapes = [...]levelShape{
	api.Zero:  {},
	api.Succ:  {"s", 1},
	api.Max:   {"max", 2},
	api.IMax:  {"imax", 2},
	api.Param: {},
}

// Level reads one level.
func (s *Scanner) Level() api.Level {
	t := s.Expect(Open, Name, Digits)
	switch {
	case t.Kind == Open:
		return s.levelInBrackets()
	case t.Kind == Name:
		return api.Level{Kind: api.Param, Name: t.Text}
	case t.Text != "0":
		t.misplaced()
	}
	return api.Level{Kind: api.Zero}
}

// levelInBrackets reads what follows a level's opening bracket.
func (s *Scanner) levelInBrackets() api.Level {
	l := api.Level{Kind: s.Word(levelKind)}
	for range levelShapes[l.Kind].parts {
		l.Args = append(l.Args, s.Level())
	}
	s.Expect(Close)
	return l
}

// levelKind is the kind of level that begins with that word behind a bracket; 0 if none does.
func levelKind(word string) int {
	for kind, shape := range levelShapes {
		if shape.word == word {
			return kind
		}
	}
	return 0
}

// WriteLevel writes a level as it is printed. One of an unknown kind is written as 0, so that no tree makes it panic.
func WriteLevel(b *strings.Builder, l api.Level) {
	word := ""
	if 0 <= l.Kind && l.Kind < len(levelShapes) {
		word = levelShapes[l.Kind].word
	}
	switch {
	case l.Kind == api.Param:
		b.WriteString(l.Name)
	case word == "":
		b.WriteByte('0')
	default:
		b.WriteByte('(')
		b.WriteString(word)
		for _, part := range l.Args {
			b.WriteByte(' ')
			WriteLevel(b, part)
		}
		b.WriteByte(')')
	}
}
