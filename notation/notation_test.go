package notation

import (
	"reflect"
	"strings"
	"testing"

	"provekernel/api"
)

func scanned(t *testing.T, text string) *Scanner {
	t.Helper()
	s, err := Scan(text, len(text))
	if err != nil {
		t.Fatalf("Scan(%q): %v", text, err)
	}
	return s
}

func TestNext(t *testing.T) {
	name := strings.Repeat("a", 40)
	for _, c := range []struct {
		text string
		want []Token
	}{
		{"", []Token{{End, 0, ""}}},
		{" \t\n", []Token{{End, 3, ""}}},
		{"(s u)", []Token{{Open, 0, "("}, {Name, 1, "s"}, {Name, 3, "u"}, {Close, 4, ")"}, {End, 5, ""}}},
		{"012ab3", []Token{{Digits, 0, "012"}, {Name, 3, "ab3"}, {End, 6, ""}}},
		{"_.'Z 0", []Token{{Name, 0, "_.'Z"}, {Digits, 5, "0"}, {End, 6, ""}}},
		{"a-'", []Token{{Name, 0, "a"}, {Bad, 1, "-"}, {Bad, 2, "'"}, {End, 3, ""}}},
		{name + " " + name + "b)", []Token{{Name, 0, name}, {Bad, 41, name + "b"}, {Close, 82, ")"}, {End, 83, ""}}},
	} {
		s := scanned(t, c.text)
		for _, want := range c.want {
			if got := s.Next(); got != want {
				t.Errorf("of %q a token is %v, want %v", c.text, got, want)
			}
		}
		if got, last := s.Next(), c.want[len(c.want)-1]; got != last {
			t.Errorf("behind the end of %q stands %v", c.text, got)
		}
	}
}

func TestScanRefusesLongTexts(t *testing.T) {
	if s, err := Scan("four", 4); s == nil || err != nil {
		t.Errorf("a text of just the length is refused: %v", err)
	}
	s, err := Scan("fives", 4)
	if code, at := api.Code(err); s != nil || code != api.FLong || at != 0 {
		t.Errorf("too long a text: fault %d at %d", code, at)
	}
}

// Levels stand in other texts, too: what follows one is left to be read.
func TestLevelStopsBehindItself(t *testing.T) {
	s := scanned(t, "(s u)0 v)")
	for _, want := range []string{"(s u)", "0", "v"} {
		l, err := s.Level()
		var b strings.Builder
		WriteLevel(&b, l)
		if err != nil || b.String() != want {
			t.Errorf("read %s, want %s (%v)", b.String(), want, err)
		}
	}
	l, err := s.Level()
	if code, at := api.Code(err); code != api.FText || at != 8 || !reflect.DeepEqual(l, api.Level{}) {
		t.Errorf("fault %d at %d", code, at)
	}
}

func TestFinish(t *testing.T) {
	if err := scanned(t, " \n\t").Finish(); err != nil {
		t.Errorf("blanks are refused: %v", err)
	}
	err := scanned(t, "  )").Finish()
	if code, at := api.Code(err); code != api.FText || at != 2 {
		t.Errorf("fault %d at %d", code, at)
	}
}
