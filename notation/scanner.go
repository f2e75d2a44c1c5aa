// Package notation: how the core stands in texts: tokens, and levels made of them. The layers that read and print the core share it.
package notation

import (
	"strings"

	"provekernel/api"
)

// Kind of a token.
type Kind int

// The kinds of tokens. Bad is what can stand nowhere.
const (
	End Kind = iota
	Open
	Close
	Name
	Digits
	Bad
)

// Token of a text; At: its first byte.
type Token struct {
	Kind Kind
	At   int
	Text string
}

// longestName: how many bytes a name may have.
const longestName = 40

// span of bytes that may stand in a name; first: at its beginning, too.
type span struct {
	low, high byte
	first     bool
}

var nameSpans = [...]span{
	{'a', 'z', true},
	{'A', 'Z', true},
	{'_', '_', true},
	{'0', '9', false},
	{'.', '.', false},
	{'\'', '\'', false},
}

// Scanner takes a text apart, token by token.
type Scanner struct {
	text string
	at   int
}

// Scan is a scanner of a text of at most that many bytes.
func Scan(text string, longest int) (*Scanner, error) {
	if len(text) > longest {
		return nil, &api.Fault{Code: api.FLong}
	}
	return &Scanner{text: text}, nil
}

// Next takes the next token; at the text's end, and ever after, End.
func (s *Scanner) Next() Token {
	s.skip(isBlank)
	if s.at == len(s.text) {
		return Token{Kind: End, At: s.at}
	}
	start := s.at
	kind := s.take()
	return Token{Kind: kind, At: start, Text: s.text[start:s.at]}
}

// Finish is a fault, unless nothing but blanks is left.
func (s *Scanner) Finish() error {
	if t := s.Next(); t.Kind != End {
		return t.Misplaced()
	}
	return nil
}

// Misplaced is the fault of a token that cannot stand where it does.
func (t Token) Misplaced() error {
	return &api.Fault{Code: api.FText, At: t.At}
}

// take moves over one token, of which a byte at least is there.
func (s *Scanner) take() Kind {
	start, c := s.at, s.text[s.at]
	s.at++
	switch {
	case c == '(':
		return Open
	case c == ')':
		return Close
	case isDigit(c):
		s.skip(isDigit)
		return Digits
	case beginsName(c):
		s.skip(continuesName)
		if s.at-start <= longestName {
			return Name
		}
	}
	return Bad
}

func (s *Scanner) skip(belongs func(c byte) bool) {
	for s.at < len(s.text) && belongs(s.text[s.at]) {
		s.at++
	}
}

func isBlank(c byte) bool { return strings.IndexByte(" \t\n", c) >= 0 }

func isDigit(c byte) bool { return '0' <= c && c <= '9' }

func beginsName(c byte) bool {
	for _, n := range nameSpans {
		if n.low <= c && c <= n.high {
			return n.first
		}
	}
	return false
}

func continuesName(c byte) bool {
	for _, n := range nameSpans {
		if n.low <= c && c <= n.high {
			return true
		}
	}
	return false
}
