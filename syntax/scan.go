package syntax

import (
	"strconv"
	"strings"

	"provekernel/api"
	"provekernel/fault"
)

// kind of a token.
type kind int

// The kinds of tokens. A word or sign of the grammar is fixed: its text says which one. What is bad can stand nowhere.
const (
	end kind = iota
	name
	digits
	fixed
	bad
)

// token of a text; at: its first byte.
type token struct {
	kind kind
	at   int
	text string
}

// is tells whether a token is that word or sign.
func (t token) is(text string) bool { return t.kind == fixed && t.text == text }

// longestName: how many bytes a name may have.
const longestName = 40

// signs of the grammar. One that begins with another stands ahead of it, since a token is as long as it can be.
var signs = [...]string{":=", "=>", "->", ".{", "(", ")", "{", "}", "@", "_", ":", "=", ",", ".", ";", "|", "+"}

// remark: what begins one, that goes on to the line's end.
const remark = "--"

// scanner takes a text apart, token by token. What its methods ask for and do not find they throw, as the fault of the token
// that stands there.
type scanner struct {
	text  string
	ahead token // the one that stands next
	rest  int   // the byte behind it
}

// newScanner is one that stands ahead of a text's first token.
func newScanner(text string) scanner {
	s := scanner{text: text}
	s.advance()
	return s
}

// advance moves on by one token; at the text's end it stays.
func (s *scanner) advance() {
	s.skipBlanks()
	start := s.rest
	if start == len(s.text) {
		s.ahead = token{kind: end, at: start}
		return
	}
	kind, length := tokenOf(s.text[start:])
	s.rest += length
	s.ahead = token{kind: kind, at: start, text: s.text[start:s.rest]}
}

// take takes the next token, whatever it is.
func (s *scanner) take() token {
	t := s.ahead
	s.advance()
	return t
}

// took takes the next token if it is that word or sign, and tells whether it was.
func (s *scanner) took(text string) bool {
	if !s.ahead.is(text) {
		return false
	}
	s.advance()
	return true
}

// expect takes the next token, that must be that word or sign.
func (s *scanner) expect(text string) {
	if !s.took(text) {
		s.refuse()
	}
}

// name takes the next token, that must be a name.
func (s *scanner) name() token {
	if s.ahead.kind != name {
		s.refuse()
	}
	return s.take()
}

// number takes the next token, that must be a number of at most that.
func (s *scanner) number(most int) int {
	n, err := strconv.Atoi(s.ahead.text)
	if err != nil || n > most || strconv.Itoa(n) != s.ahead.text {
		s.refuse()
	}
	s.advance()
	return n
}

// refuse throws the fault of a token that cannot stand where the next one does.
func (s *scanner) refuse() { fault.ThrowAt(api.FText, s.ahead.at) }

// skipBlanks moves on to what is neither a blank nor a remark.
func (s *scanner) skipBlanks() {
	for s.rest < len(s.text) {
		switch left := s.text[s.rest:]; {
		case isBlank(left[0]):
			s.rest++
		case strings.HasPrefix(left, remark):
			s.rest += lineLength(left)
		default:
			return
		}
	}
}

// lineLength: how many bytes stand ahead of a line's end.
func lineLength(text string) int {
	if n := strings.IndexByte(text, '\n'); n >= 0 {
		return n
	}
	return len(text)
}

// tokenOf is the kind and the length of the token that a text begins with, which is not empty.
func tokenOf(text string) (kind, int) {
	switch {
	case isLetter(text[0]):
		n := nameLength(text)
		return nameKind(text[:n]), n
	case isDigit(text[0]):
		return digits, runLength(text, isDigit)
	}
	for _, sign := range signs {
		if strings.HasPrefix(text, sign) {
			return fixed, len(sign)
		}
	}
	return bad, 1
}

// nameLength is the length of the name that a text begins with, its dots and what stands behind them included: a dot without a
// letter behind it is no part of it.
func nameLength(text string) int {
	n := runLength(text, continuesName)
	for n+1 < len(text) && text[n] == '.' && isLetter(text[n+1]) {
		n += 1 + runLength(text[n+1:], continuesName)
	}
	return n
}

// nameKind is the kind of a token that is made like a name.
func nameKind(text string) kind {
	switch text {
	case "axiom", "def", "theorem", "inductive", "fun", "forall", "let", "in", "by", "Type", "Prop", "Sort", "max", "imax":
		return fixed
	}
	if len(text) > longestName {
		return bad
	}
	return name
}

// runLength: how many bytes at a text's beginning belong to something.
func runLength(text string, belongs func(c byte) bool) int {
	n := 0
	for n < len(text) && belongs(text[n]) {
		n++
	}
	return n
}

func isBlank(c byte) bool { return c == ' ' || c == '\t' || c == '\n' }

func isDigit(c byte) bool { return '0' <= c && c <= '9' }

func isLetter(c byte) bool { return 'a' <= c && c <= 'z' || 'A' <= c && c <= 'Z' }

func continuesName(c byte) bool { return isLetter(c) || isDigit(c) || c == '_' || c == '\'' }
