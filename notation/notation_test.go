package notation

import (
	"reflect"
	"strings"
	"testing"

	"provekernel/api"
)

// tokens of a text, up to its end.
func tokens(s *Scanner) []Token {
	var ts []Token
	for {
		t := s.Next()
		ts = append(ts, t)
		if t.Kind == End {
			return ts
		}
	}
}

func TestNext(t *testing.T) {
	name := strings.Repeat("a", 40)
	for _, c := range []struct {
		text string
		want []Token
	}{
		{"", []Token{{End, 0, ""}}},
		{" \t\n", []Token{{End, 3, ""}}},
		{"(s u)", []Token{{Open, 0, "("}, {Name, 1, "s"}, {Name, 3, "u"}, {Close, 4, ")"}, {End, 5, ""}}},
		{"012ab3", []Token{{Digits, 0, "012"}, {Name, 3, "ab3"}, {End, 6, ""}}},
		{"_.'Z 0", []Token{{Name, 0, "_.'Z"}, {Digits, 5, "0"}, {End, 6, ""}}},
		{"a-'", []Token{{Name, 0, "a"}, {Bad, 1, "-"}, {Bad, 2, "'"}, {End, 3, ""}}},
		{"#0#12a #99999", []Token{{Index, 0, "#0"}, {Index, 2, "#12"}, {Name, 5, "a"}, {Index, 7, "#99999"}, {End, 13, ""}}},
		{"#01 #100000 # 1", []Token{{Bad, 0, "#01"}, {Bad, 4, "#100000"}, {Bad, 12, "#"}, {Digits, 14, "1"}, {End, 15, ""}}},
		{"##1", []Token{{Bad, 0, "#"}, {Index, 1, "#1"}, {End, 3, ""}}},
		{name + " " + name + "b)", []Token{{Name, 0, name}, {Bad, 41, name + "b"}, {Close, 82, ")"}, {End, 83, ""}}},
	} {
		got, err := Read(c.text, len(c.text), tokens)
		if err != nil || !reflect.DeepEqual(got, c.want) {
			t.Errorf("the tokens of %q are %v, want %v (%v)", c.text, got, c.want, err)
		}
	}
}

func TestReadRefusesLongTexts(t *testing.T) {
	if name, err := Read("four", 4, (*Scanner).Name); name != "four" || err != nil {
		t.Errorf("a text of just the length is refused: %v", err)
	}
	name, err := Read("fives", 4, (*Scanner).Name)
	if code, at := api.Code(err); name != "" || code != api.FLong || at != 0 {
		t.Errorf("too long a text: %q, fault %d at %d", name, code, at)
	}
}

func TestReadWantsTheWholeText(t *testing.T) {
	name, err := Read("a  )", 9, (*Scanner).Name)
	if code, at := api.Code(err); name != "" || code != api.FText || at != 3 {
		t.Errorf("%q, fault %d at %d", name, code, at)
	}
	if name, err := Read("\n a \t\n", 9, (*Scanner).Name); name != "a" || err != nil {
		t.Errorf("%q, %v", name, err)
	}
}

// What is no fault of a text must not be told as one.
func TestReadThrowsOtherPanicsOn(t *testing.T) {
	defer func() {
		if thrown := recover(); thrown != "other" {
			t.Errorf("thrown on: %v", thrown)
		}
	}()
	Read("a", 1, func(*Scanner) int { panic("other") })
}

func TestNumber(t *testing.T) {
	for _, c := range []struct {
		text string
		want int
	}{{"0", 0}, {"7", 7}, {" 99 ", 99}} {
		if got, err := Read(c.text, 99, func(s *Scanner) int { return s.Number(99) }); got != c.want || err != nil {
			t.Errorf("Number of %q: %d, %v", c.text, got, err)
		}
	}
	for _, text := range []string{"", "00", "01", "100", "99999999999999999999", "a", "#1", "-1"} {
		got, err := Read(text, 99, func(s *Scanner) int { return s.Number(99) })
		if code, at := api.Code(err); code != api.FText || at != 0 || got != 0 {
			t.Errorf("Number of %q: %d, fault %d at %d", text, got, code, at)
		}
	}
}

// Levels stand in other texts, too: what follows one is left to be read.
func TestLevelStopsBehindItself(t *testing.T) {
	read := func(s *Scanner) string {
		var b strings.Builder
		for range 3 {
			WriteLevel(&b, s.Level())
			b.WriteByte(';')
		}
		s.Expect(Close)
		return b.String()
	}
	if got, err := Read("(s u)0 v)", 99, read); got != "(s u);0;v;" || err != nil {
		t.Errorf("read %s (%v)", got, err)
	}
	got, err := Read("(s u)0))", 99, read)
	if code, at := api.Code(err); code != api.FText || at != 6 || got != "" {
		t.Errorf("read %q, fault %d at %d", got, code, at)
	}
}

// No tree makes the writing panic, be it one that cannot be.
func TestWritingOfUnknownKinds(t *testing.T) {
	for _, kind := range []int{-1, 7, 1 << 40} {
		var b strings.Builder
		WriteLevel(&b, api.Level{Kind: kind})
		WriteTerm(&b, api.Term{Kind: kind, N: 4})
		if b.String() != "0#4" {
			t.Errorf("kind %d is written as %q", kind, b.String())
		}
	}
}
