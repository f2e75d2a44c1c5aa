package elab

import (
	"reflect"
	"testing"

	"provekernel/api"
	"provekernel/kernel"
)

// Env knows what has been added when it is asked: neither what is added later, nor does the state know what is put into it.
func TestEnv(t *testing.T) {
	s := New()
	empty := s.Env()
	for _, c := range parsed(t, "axiom a : Prop. axiom b : a.") {
		if err := s.Run(c, 100); err != nil {
			t.Fatal(shown(err, 0))
		}
	}
	if kernel.Export(empty) != "" || empty.Known("a") {
		t.Errorf("what is added is known where nothing was: %s", kernel.Export(empty))
	}
	e := s.Env()
	if want := "(axiom a () (sort 0))\n(axiom b () (const a))\n"; kernel.Export(e) != want {
		t.Errorf("there is %s, want %s", kernel.Export(e), want)
	}
	d, _ := declarationOf("(axiom c () (const a))")
	if err := kernel.Add(e, d, 100); err != nil {
		t.Error(shown(err, 0))
	}
	if err := s.Run(parsed(t, "axiom c : a.")[0], 100); err != nil {
		t.Errorf("what is put into what Env answers is in the state: %s", shown(err, 0))
	}
	if err := s.Run(parsed(t, "axiom c : a.")[0], 100); shown(err, 0) != "FTwice at 0" {
		t.Errorf("the same once more: %s", shown(err, 0))
	}
	var none State
	if err := none.Run(parsed(t, "axiom a : Prop.")[0], 100); err != nil || kernel.Export(none.Env()) != "(axiom a () (sort 0))\n" {
		t.Errorf("a state that was not made by New: %s", shown(err, 0))
	}
	if e := new(State).Env(); e == nil || len(e.Decls()) != 0 {
		t.Error("nothing is known to it, too")
	}
}

// What is handed over is only read, and not kept; what is answered hangs on it and on what has run alone.
func TestOnlyRead(t *testing.T) {
	cs, twins := parsed(t, world+library+proofs), parsed(t, world+library+proofs)
	s, other := New(), New()
	for i := range cs {
		first, second := s.Run(cs[i], 3000), other.Run(twins[i], 3000)
		if first != nil || second != nil {
			t.Fatalf("%s: %s, %s", cs[i].Name, shown(first, 0), shown(second, 0))
		}
		if !reflect.DeepEqual(cs[i], twins[i]) {
			t.Errorf("%s has been changed", cs[i].Name)
		}
		spoil(&cs[i])
	}
	if got, want := kernel.Export(s.Env()), kernel.Export(other.Env()); got != want {
		t.Errorf("there is\n%s\nwant\n%s", got, want)
	}
	if !reflect.DeepEqual(s.known, other.known) {
		t.Error("what is known of constants hangs on what was handed over")
	}
}

// spoil changes all that is in a command.
func spoil(c *api.Command) {
	var expr func(e *api.Expr)
	var level func(l *api.Level)
	level = func(l *api.Level) {
		for i := range l.Args {
			level(&l.Args[i])
		}
		*l = api.Level{Kind: api.Param, Name: "spoilt"}
	}
	expr = func(e *api.Expr) {
		for i := range e.Levels {
			level(&e.Levels[i])
		}
		for i := range e.Args {
			expr(&e.Args[i])
		}
		e.Kind, e.Name, e.Implicit = api.XHole, "spoilt", !e.Implicit
	}
	for i := range c.Params {
		c.Params[i] = "spoilt"
	}
	for i := range c.Binders {
		c.Binders[i].Implicit = !c.Binders[i].Implicit
		expr(&c.Binders[i].Type)
	}
	for i := range c.Ctors {
		expr(&c.Ctors[i].Type)
		c.Ctors[i].Name = "spoilt"
	}
	for i := range c.Tactics {
		for k := range c.Tactics[i].Names {
			c.Tactics[i].Names[k] = "spoilt"
		}
		for k := range c.Tactics[i].Exprs {
			expr(&c.Tactics[i].Exprs[k])
		}
	}
	expr(&c.Type)
	expr(&c.Value)
}

// Trees that Parse never answers are refused, or taken for what they are as far as they go: no call panics.
func TestOddTrees(t *testing.T) {
	s := worldState(t)
	for kind := range 6 {
		for expr := range 10 {
			c := api.Command{Kind: kind, Name: "a", Type: api.Expr{Kind: expr}, Value: api.Expr{Kind: expr}, Ctors: []api.CtorText{{Name: "c", Type: api.Expr{Kind: expr}}}}
			s.Run(c, 100)
			c.Type = api.Expr{Kind: api.XSort, Levels: []api.Level{{Kind: api.Succ, Args: []api.Level{{}}}}}
			s.Run(c, 100)
			c.Value = api.Expr{Kind: api.XApply, Args: []api.Expr{{Kind: expr}, {Kind: api.XHole}}}
			s.Run(c, 100)
		}
	}
	if err := s.Run(api.Command{Kind: 7, At: 3}, 100); shown(err, 0) != "FText at 3" {
		t.Errorf("a command of no kind: %s", shown(err, 0))
	}
	if err := s.Run(api.Command{Kind: api.CAxiom, Name: "b", Type: api.Expr{Kind: api.XFun, At: 9}}, 100); shown(err, 0) != "FText at 9" {
		t.Errorf("a fun without parts: %s", shown(err, 0))
	}
	if err := s.Run(api.Command{Kind: api.CTheorem, At: 5, Name: "b", Type: api.Expr{Kind: api.XHole}, ByTactics: true}, 100); shown(err, 0) != "FTactic at 5" {
		t.Errorf("a proof without tactics: %s", shown(err, 0))
	}
	for kind := range 16 {
		for lacks := range 3 {
			odd := api.Tactic{Kind: kind, At: 7, Names: []string{"x"}, Exprs: []api.Expr{{Kind: api.XHole}}}
			if lacks == 1 {
				odd.Names = nil
			} else if lacks == 2 {
				odd.Exprs = nil
			}
			c := api.Command{Kind: api.CTheorem, At: 5, Name: "b", Type: api.Expr{Kind: api.XName, Name: "Nat"}, ByTactics: true, Tactics: []api.Tactic{odd}}
			if got := shown(s.Run(c, 100), 0); (kind == 0 || kind > api.TSymm) && got != "FText at 7" {
				t.Errorf("a tactic of kind %d: %s", kind, got)
			}
		}
	}
}
