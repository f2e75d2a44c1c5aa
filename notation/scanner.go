// Package notation: how the core stands in texts: tokens, and levels and terms made of them. The layers that read and print the core share it.
package notation

import (
	"slices"
	"strconv"
	"strings"

	"provekernel/api"
	"provekernel/fault"
)

// Kind of a token.
type Kind int

// The kinds of tokens. Index is a `#` with its digits, Bad what can stand nowhere.
const (
	End Kind = iota
	Open
	Close
	Name
	Digits
	Index
	Bad
)

// Token of a text; At: its first byte.
type Token struct {
	Kind Kind
	At   int
	Text string
}

// longestName: how many bytes a name may have.
const longestName = 40

// greatestIndex: which number may stand behind a `#`.
const greatestIndex = 99999

// span of bytes that may stand in a name; first: at its beginning, too.
type span struct {
	low, high byte
	first     bool
}

var nameSpans = [...]span{
	{'a', 'z', true},
	{'A', 'Z', true},
	{'_', '_', true},
	{'0', '9', false},
	{'.', '.', false},
	{'\'', '\'', false},
}

// Scanner takes a text apart, token by token. What its methods ask for and do not find they throw, as the fault that Read answers.
type Scanner struct {
	text string
	at   int
}

// Read is what read makes of the whole of a text of at most that many bytes.
func Read[T any](text string, longest int, read func(s *Scanner) T) (T, error) {
	return fault.Caught(func() T {
		if len(text) > longest {
			fault.Throw(api.FLong)
		}
		s := &Scanner{text: text}
		made := read(s)
		s.Expect(End)
		return made
	})
}

// Next takes the next token; at the text's end, and ever after, End.
func (s *Scanner) Next() Token {
	s.skip(isBlank)
	if s.at == len(s.text) {
		return Token{Kind: End, At: s.at}
	}
	start := s.at
	kind := s.take()
	return Token{Kind: kind, At: start, Text: s.text[start:s.at]}
}

// Expect takes the next token, that must be of one of these kinds.
func (s *Scanner) Expect(kinds ...Kind) Token {
	t := s.Next()
	if !slices.Contains(kinds, t.Kind) {
		t.misplaced()
	}
	return t
}

// Before tells whether the next token is of that kind, and leaves it there.
func (s *Scanner) Before(kind Kind) bool {
	ahead := *s
	return ahead.Next().Kind == kind
}

// Name takes a name.
func (s *Scanner) Name() string { return s.Expect(Name).Text }

// Word takes a name of which kindOf knows what begins with it: its kind, that is not 0.
func (s *Scanner) Word(kindOf func(word string) int) int {
	t := s.Expect(Name)
	kind := kindOf(t.Text)
	if kind == 0 {
		t.misplaced()
	}
	return kind
}

// Number takes digits alone, that are a number of at most that.
func (s *Scanner) Number(most int) int {
	t := s.Expect(Digits)
	n, ok := number(t.Text, most)
	if !ok {
		t.misplaced()
	}
	return n
}

// misplaced throws the fault of a token that cannot stand where it does.
func (t Token) misplaced() {
	fault.ThrowAt(api.FText, t.At)
}

// take moves over one token, of which a byte at least is there.
func (s *Scanner) take() Kind {
	start, c := s.at, s.text[s.at]
	s.at++
	switch {
	case c == '(':
		return Open
	case c == ')':
		return Close
	case isDigit(c):
		s.skip(isDigit)
		return Digits
	case c == '#':
		s.skip(isDigit)
		if _, ok := number(s.text[start+1:s.at], greatestIndex); ok {
			return Index
		}
	case beginsName(c):
		s.skip(continuesName)
		if s.at-start <= longestName {
			return Name
		}
	}
	return Bad
}

func (s *Scanner) skip(belongs func(c byte) bool) {
	for s.at < len(s.text) && belongs(s.text[s.at]) {
		s.at++
	}
}

// number is what digits mean, if there are any, no 0 stands ahead of another one, and they mean at most that.
func number(digits string, most int) (int, bool) {
	if len(digits) > 1 && digits[0] == '0' {
		return 0, false
	}
	n, err := strconv.Atoi(digits)
	if err != nil || n > most {
		return 0, false
	}
	return n, true
}

func isBlank(c byte) bool { return strings.IndexByte(" \t\n", c) >= 0 }

func isDigit(c byte) bool { return '0' <= c && c <= '9' }

func beginsName(c byte) bool {
	for _, n := range nameSpans {
		if n.low <= c && c <= n.high {
			return n.first
		}
	}
	return false
}

func continuesName(c byte) bool {
	for _, n := range nameSpans {
		if n.low <= c && c <= n.high {
			return true
		}
	}
	return false
}
