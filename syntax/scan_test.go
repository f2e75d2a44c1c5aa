package syntax

import (
	"reflect"
	"strings"
	"testing"

	"provekernel/api"
)

// tokens of a text, up to its end.
func tokens(text string) []token {
	s := newScanner(text)
	ts := []token{}
	for s.ahead.kind != end {
		ts = append(ts, s.take())
	}
	return append(ts, s.take())
}

func TestTokens(t *testing.T) {
	forty := strings.Repeat("a", 40)
	dotted := strings.Repeat("a.", 19) + "bc"
	for _, c := range []struct {
		text string
		want []token
	}{
		{"", []token{{end, 0, ""}}},
		{" \t\n ", []token{{end, 4, ""}}},
		{"-- a b\n", []token{{end, 7, ""}}},
		{"-- a b", []token{{end, 6, ""}}},
		{"--", []token{{end, 2, ""}}},
		{"--\na--b\n--\n\nc--", []token{{name, 3, "a"}, {name, 12, "c"}, {end, 15, ""}}},
		{"a---> b\nc", []token{{name, 0, "a"}, {name, 8, "c"}, {end, 9, ""}}},
		{"--\r\xff(\nc", []token{{name, 6, "c"}, {end, 7, ""}}},
		{"Nat.rec", []token{{name, 0, "Nat.rec"}, {end, 7, ""}}},
		{"a.b.c'.d_1", []token{{name, 0, "a.b.c'.d_1"}, {end, 10, ""}}},
		{"x.", []token{{name, 0, "x"}, {fixed, 1, "."}, {end, 2, ""}}},
		{"x.y.", []token{{name, 0, "x.y"}, {fixed, 3, "."}, {end, 4, ""}}},
		{"x..y", []token{{name, 0, "x"}, {fixed, 1, "."}, {fixed, 2, "."}, {name, 3, "y"}, {end, 4, ""}}},
		{"x. y", []token{{name, 0, "x"}, {fixed, 1, "."}, {name, 3, "y"}, {end, 4, ""}}},
		{"x .y", []token{{name, 0, "x"}, {fixed, 2, "."}, {name, 3, "y"}, {end, 4, ""}}},
		{"x.1", []token{{name, 0, "x"}, {fixed, 1, "."}, {digits, 2, "1"}, {end, 3, ""}}},
		{"x._", []token{{name, 0, "x"}, {fixed, 1, "."}, {fixed, 2, "_"}, {end, 3, ""}}},
		{"x.'", []token{{name, 0, "x"}, {fixed, 1, "."}, {bad, 2, "'"}, {end, 3, ""}}},
		{"x.--y", []token{{name, 0, "x"}, {fixed, 1, "."}, {end, 5, ""}}},
		{"f.{u}", []token{{name, 0, "f"}, {fixed, 1, ".{"}, {name, 3, "u"}, {fixed, 4, "}"}, {end, 5, ""}}},
		{"f. {", []token{{name, 0, "f"}, {fixed, 1, "."}, {fixed, 3, "{"}, {end, 4, ""}}},
		{"a.b.{", []token{{name, 0, "a.b"}, {fixed, 3, ".{"}, {end, 5, ""}}},
		{"a..{", []token{{name, 0, "a"}, {fixed, 1, "."}, {fixed, 2, ".{"}, {end, 4, ""}}},
		{"a:=b", []token{{name, 0, "a"}, {fixed, 1, ":="}, {name, 3, "b"}, {end, 4, ""}}},
		{"::==>=->:", []token{{fixed, 0, ":"}, {fixed, 1, ":="}, {fixed, 3, "=>"}, {fixed, 5, "="}, {fixed, 6, "->"}, {fixed, 8, ":"}, {end, 9, ""}}},
		{"->--\n->", []token{{fixed, 0, "->"}, {fixed, 5, "->"}, {end, 7, ""}}},
		{"- ->", []token{{bad, 0, "-"}, {fixed, 2, "->"}, {end, 4, ""}}},
		{">", []token{{bad, 0, ">"}, {end, 1, ""}}},
		{"()(){}@_,;|+", []token{{fixed, 0, "("}, {fixed, 1, ")"}, {fixed, 2, "("}, {fixed, 3, ")"}, {fixed, 4, "{"}, {fixed, 5, "}"}, {fixed, 6, "@"}, {fixed, 7, "_"}, {fixed, 8, ","}, {fixed, 9, ";"}, {fixed, 10, "|"}, {fixed, 11, "+"}, {end, 12, ""}}},
		{"_a__b_", []token{{fixed, 0, "_"}, {name, 1, "a__b_"}, {end, 6, ""}}},
		{"__", []token{{fixed, 0, "_"}, {fixed, 1, "_"}, {end, 2, ""}}},
		{"12a3", []token{{digits, 0, "12"}, {name, 2, "a3"}, {end, 4, ""}}},
		{"007", []token{{digits, 0, "007"}, {end, 3, ""}}},
		{"1.2", []token{{digits, 0, "1"}, {fixed, 1, "."}, {digits, 2, "2"}, {end, 3, ""}}},
		{"1.a", []token{{digits, 0, "1"}, {fixed, 1, "."}, {name, 2, "a"}, {end, 3, ""}}},
		{"'a", []token{{bad, 0, "'"}, {name, 1, "a"}, {end, 2, ""}}},
		{"a\rb", []token{{name, 0, "a"}, {bad, 1, "\r"}, {name, 2, "b"}, {end, 3, ""}}},
		{"aé", []token{{name, 0, "a"}, {bad, 1, "\xc3"}, {bad, 2, "\xa9"}, {end, 3, ""}}},
		{"\x00", []token{{bad, 0, "\x00"}, {end, 1, ""}}},
		{forty, []token{{name, 0, forty}, {end, 40, ""}}},
		{forty + "b c", []token{{bad, 0, forty + "b"}, {name, 42, "c"}, {end, 43, ""}}},
		{forty + ".", []token{{name, 0, forty}, {fixed, 40, "."}, {end, 41, ""}}},
		{forty + ".b", []token{{bad, 0, forty + ".b"}, {end, 42, ""}}},
		{dotted, []token{{name, 0, dotted}, {end, 40, ""}}},
		{dotted + "d", []token{{bad, 0, dotted + "d"}, {end, 41, ""}}},
		{"in inn in.x x.in In", []token{{fixed, 0, "in"}, {name, 3, "inn"}, {name, 7, "in.x"}, {name, 12, "x.in"}, {name, 17, "In"}, {end, 19, ""}}},
	} {
		if got := tokens(c.text); !reflect.DeepEqual(got, c.want) {
			t.Errorf("the tokens of %q are %v, want %v", c.text, got, c.want)
		}
	}
}

// Every letter begins a name; no other byte does.
func TestLetters(t *testing.T) {
	const letters = "abcdefghijklmnopqrstuvwxyzABCDEFGHIJKLMNOPQRSTUVWXYZ"
	for c := range 256 {
		b := string([]byte{byte(c)})
		first := tokens(b)[0]
		if begins := strings.Contains(letters, b); begins != (first.kind == name) {
			t.Errorf("%q begins a name: %v", b, !begins)
		}
		whole := tokens("a" + b)[0].text == "a"+b
		if goesOn := strings.Contains(letters+"0123456789_'", b); goesOn != whole {
			t.Errorf("%q stands in a name: %v", b, !goesOn)
		}
		if isBlank := strings.Contains(" \t\n", b); isBlank != (first.kind == end) {
			t.Errorf("%q is a blank: %v", b, !isBlank)
		}
	}
}

// The words of the grammar are no names; those of tactics are.
func TestWords(t *testing.T) {
	for _, word := range strings.Fields("axiom def theorem inductive fun forall let in by Type Prop Sort max imax") {
		_, err := Parse("axiom " + word + " : A.")
		if code, at := api.Code(err); code != api.FText || at != 6 {
			t.Errorf("%s as a name: fault %d at %d", word, code, at)
		}
		for _, near := range []string{word + "x", "x." + word, word + ".x", word + "'", word + "_", word + "0"} {
			cs := parsed(t, "axiom "+near+" : A.")
			if cs[0].Name != near {
				t.Errorf("%s is read as %s", near, cs[0].Name)
			}
		}
	}
	for _, word := range strings.Fields("intro exact apply assumption refl induction cases rewrite have constructor exists simpl symm s Eq") {
		text := "theorem " + word + ".{" + word + "} (" + word + " : " + word + ".{" + word + "}) : fun " + word + " => " + word + " by intro " + word + " " + word + "; exact " + word + "; cases " + word + "; have " + word + " : " + word + "."
		c := parsed(t, text)[0]
		if c.Name != word || c.Params[0] != word || c.Binders[0].Name != word || c.Binders[0].Type.Levels[0].Name != word || c.Tactics[0].Names[1] != word || c.Tactics[1].Exprs[0].Name != word || len(c.Tactics) != 4 {
			t.Errorf("%s as a name: %s", word, shownCommand(c))
		}
	}
}
