package notation

import (
	"strings"

	"provekernel/api"
)

// shape of a level in brackets: the word that it begins with, how many levels follow.
type shape struct {
	word  string
	parts int
}

// shapes, by kind; a kind without a word stands without brackets.
var shapes = [...]shape{
	api.Zero:  {},
	api.Succ:  {"s", 1},
	api.Max:   {"max", 2},
	api.IMax:  {"imax", 2},
	api.Param: {},
}

// Level reads one level; with a fault it answers the zero Level.
func (s *Scanner) Level() (api.Level, error) {
	t := s.Next()
	switch {
	case t.Kind == Open:
		return s.bracketed()
	case t.Kind == Name:
		return api.Level{Kind: api.Param, Name: t.Text}, nil
	case t.Kind == Digits && t.Text == "0":
		return api.Level{Kind: api.Zero}, nil
	}
	return api.Level{}, t.Misplaced()
}

// bracketed reads what follows a level's opening bracket.
func (s *Scanner) bracketed() (api.Level, error) {
	head := s.Next()
	kind, ok := kindOf(head)
	if !ok {
		return api.Level{}, head.Misplaced()
	}
	l := api.Level{Kind: kind}
	for range shapes[kind].parts {
		part, err := s.Level()
		if err != nil {
			return api.Level{}, err
		}
		l.Args = append(l.Args, part)
	}
	if t := s.Next(); t.Kind != Close {
		return api.Level{}, t.Misplaced()
	}
	return l, nil
}

// kindOf is the kind of level that begins with that token behind a bracket.
func kindOf(t Token) (int, bool) {
	if t.Kind != Name {
		return 0, false
	}
	for kind, sh := range shapes {
		if sh.word == t.Text {
			return kind, true
		}
	}
	return 0, false
}

// WriteLevel writes a level as it is printed. One of an unknown kind is written as 0, so that no tree makes it panic.
func WriteLevel(b *strings.Builder, l api.Level) {
	word := ""
	if 0 <= l.Kind && l.Kind < len(shapes) {
		word = shapes[l.Kind].word
	}
	switch {
	case l.Kind == api.Param:
		b.WriteString(l.Name)
	case word == "":
		b.WriteByte('0')
	default:
		b.WriteByte('(')
		b.WriteString(word)
		for _, part := range l.Args {
			b.WriteByte(' ')
			WriteLevel(b, part)
		}
		b.WriteByte(')')
	}
}
