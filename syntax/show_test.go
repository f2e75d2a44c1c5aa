package syntax

import (
	"strconv"
	"strings"
	"testing"

	"provekernel/api"
	"provekernel/level"
)

// parsed is what a text becomes; the test fails if it is refused.
func parsed(t *testing.T, text string) []api.Command {
	t.Helper()
	cs, err := Parse(text)
	if err != nil {
		code, at := api.Code(err)
		t.Fatalf("Parse(%.200q): fault %d at %d", text, code, at)
	}
	return cs
}

// shown is an expression with all that its kind has, each with its place.
func shown(e api.Expr) string {
	begin := func(word string) string { return "(" + word + "@" + strconv.Itoa(e.At) }
	name := e.Name
	if e.Implicit {
		name = "{" + name + "}"
	}
	switch e.Kind {
	case api.XName:
		return shownName(e)
	case api.XSort:
		return begin("sort") + shownLevels(e.Levels) + ")"
	case api.XHole:
		return "_@" + strconv.Itoa(e.At)
	case api.XApply:
		return begin("apply") + shownParts(e) + ")"
	case api.XFun:
		return begin("fun") + " " + name + shownParts(e) + ")"
	case api.XForall:
		if name == "" {
			name = "->"
		}
		return begin("forall") + " " + name + shownParts(e) + ")"
	case api.XLet:
		return begin("let") + " " + name + shownParts(e) + ")"
	case api.XIs:
		return begin("is") + shownParts(e) + ")"
	}
	return "?"
}

func shownName(e api.Expr) string {
	text := e.Name
	if e.Explicit {
		text = "@" + text
	}
	if e.Infix {
		text = "=" + text
	}
	if e.Given {
		text += "{" + shownLevels(e.Levels) + " }"
	}
	return text + "@" + strconv.Itoa(e.At)
}

func shownParts(e api.Expr) string {
	text := ""
	for _, arg := range e.Args {
		text += " " + shown(arg)
	}
	return text
}

func shownLevels(ls []api.Level) string {
	text := ""
	for _, l := range ls {
		text += " " + level.Print(l)
	}
	return text
}

// shownCommand is a command with all that it has, each with its place.
func shownCommand(c api.Command) string {
	parts := []string{strconv.Itoa(c.Kind) + "@" + strconv.Itoa(c.At), c.Name}
	for _, param := range c.Params {
		parts = append(parts, "."+param)
	}
	for _, b := range c.Binders {
		name := b.Name
		if b.Implicit {
			name = "{" + name + "}"
		}
		parts = append(parts, "["+name+" "+shown(b.Type)+"]")
	}
	parts = append(parts, ":", shown(c.Type))
	if c.Value.Kind != 0 {
		parts = append(parts, ":=", shown(c.Value))
	}
	if c.ByTactics {
		parts = append(parts, "by")
	}
	for _, x := range c.Tactics {
		parts = append(parts, shownTactic(x))
	}
	for _, ctor := range c.Ctors {
		parts = append(parts, "|"+ctor.Name+"@"+strconv.Itoa(ctor.At), shown(ctor.Type))
	}
	return strings.Join(parts, " ")
}

func shownTactic(x api.Tactic) string {
	text := "<" + strconv.Itoa(x.Kind) + "@" + strconv.Itoa(x.At)
	for _, name := range x.Names {
		text += " " + name
	}
	if x.Number != 0 {
		text += " #" + strconv.Itoa(x.Number)
	}
	for _, e := range x.Exprs {
		text += " " + shown(e)
	}
	return text + ">"
}

// unplaced is an expression again, with every place 0.
func unplaced(e api.Expr) api.Expr {
	e.At = 0
	e.Args = append([]api.Expr(nil), e.Args...)
	for i := range e.Args {
		e.Args[i] = unplaced(e.Args[i])
	}
	return e
}

// unplacedAll are commands again, with every place 0.
func unplacedAll(cs []api.Command) []api.Command {
	var out []api.Command
	for _, c := range cs {
		c.At, c.Type, c.Value = 0, unplaced(c.Type), unplaced(c.Value)
		c.Binders = append([]api.Binder(nil), c.Binders...)
		for i := range c.Binders {
			c.Binders[i].Type = unplaced(c.Binders[i].Type)
		}
		c.Tactics = append([]api.Tactic(nil), c.Tactics...)
		for i := range c.Tactics {
			x := &c.Tactics[i]
			x.At, x.Exprs = 0, append([]api.Expr(nil), x.Exprs...)
			for j := range x.Exprs {
				x.Exprs[j] = unplaced(x.Exprs[j])
			}
		}
		c.Ctors = append([]api.CtorText(nil), c.Ctors...)
		for i := range c.Ctors {
			c.Ctors[i].At, c.Ctors[i].Type = 0, unplaced(c.Ctors[i].Type)
		}
		out = append(out, c)
	}
	return out
}
