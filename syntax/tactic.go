package syntax

import "provekernel/api"

// tacticKinds: the kinds of tactics, by the words that they begin with.
func tacticKinds() map[string]int {
	return map[string]int{
		"intro":       api.TIntro,
		"exact":       api.TExact,
		"apply":       api.TApply,
		"assumption":  api.TAssumption,
		"refl":        api.TRefl,
		"induction":   api.TInduction,
		"cases":       api.TCases,
		"rewrite":     api.TRewrite,
		"have":        api.THave,
		"constructor": api.TConstructor,
		"exists":      api.TExists,
		"simpl":       api.TSimpl,
		"symm":        api.TSymm,
	}
}

// tacticWords: the other way round, what a tactic begins with, by kind.
func tacticWords() []string {
	words := make([]string, len(tacticShapes))
	for word, kind := range tacticKinds() {
		words[kind] = word
	}
	return words
}

// tacticShape: what follows a tactic's word. Between a name and an expression a colon stands.
type tacticShape struct {
	name, names, number, expr bool
}

// tacticShapes, by kind.
var tacticShapes = [...]tacticShape{
	api.TIntro:       {names: true},
	api.TExact:       {expr: true},
	api.TApply:       {expr: true},
	api.TInduction:   {name: true},
	api.TCases:       {name: true},
	api.TRewrite:     {expr: true},
	api.THave:        {name: true, expr: true},
	api.TConstructor: {number: true},
	api.TExists:      {expr: true},
	api.TSymm:        {},
}

// greatestNumber: of a constructor.
const greatestNumber = 99

// proof reads the tactics behind the word by.
func (r *reader) proof() []api.Tactic {
	ts := []api.Tactic{r.tactic()}
	for r.took(";") {
		ts = append(ts, r.tactic())
	}
	return ts
}

func (r *reader) tactic() api.Tactic {
	t := api.Tactic{Kind: r.tactics[r.ahead.text], At: r.ahead.at}
	if t.Kind == 0 {
		r.refuse()
	}
	r.take()
	shape := tacticShapes[t.Kind]
	if shape.name {
		t.Names = []string{r.name().text}
	}
	if shape.names {
		for _, called := range r.names() {
			t.Names = append(t.Names, called.text)
		}
	}
	if shape.name && shape.expr {
		r.expect(":")
	}
	if shape.number {
		t.Number = r.number(greatestNumber)
	}
	if shape.expr {
		t.Exprs = []api.Expr{*r.expr()}
	}
	return t
}
