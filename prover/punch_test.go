package prover_test

import (
	"math/rand"
	"slices"
	"strconv"
	"testing"

	"provekernel/api"
	"provekernel/elab"
	"provekernel/prover"
	"provekernel/syntax"
)

// puncher leaves out what stands in commands: of a hundred levels, implicit arguments, types of variables, or any parts so many.
type puncher struct {
	*rand.Rand
	signs                    signs
	levels, args, types, any int
}

func (p *puncher) chance(percent int) bool { return p.Intn(100) < percent }

// expr is an expression with something left out.
func (p *puncher) expr(e api.Expr) api.Expr {
	switch {
	case p.chance(p.any):
		return api.Expr{Kind: api.XHole}
	case e.Kind == api.XName || e.Kind == api.XApply:
		return p.application(e)
	}
	e.Args = slices.Clone(e.Args)
	for i := range e.Args {
		if i == 0 && p.chance(p.types) && e.Kind != api.XForall {
			e.Args[i] = api.Expr{Kind: api.XHole}
		} else {
			e.Args[i] = p.expr(e.Args[i])
		}
	}
	return e
}

// application is a name, or what is applied, with something left out.
func (p *puncher) application(e api.Expr) api.Expr {
	var args []api.Expr
	for ; e.Kind == api.XApply; e = e.Args[0] {
		args = append(args, p.expr(e.Args[1]))
	}
	slices.Reverse(args)
	if e.Kind != api.XName {
		e = p.expr(e)
	}
	if e.Given && p.chance(p.levels) {
		e.Given, e.Levels = false, nil
	}
	implicit := p.signs[e.Name]
	whole := len(args) >= len(implicit) || !implicit[len(args)]
	if e.Kind == api.XName && e.Explicit && whole && p.chance(p.args) {
		e.Explicit = false
		var left []api.Expr
		for i, arg := range args {
			if i >= len(implicit) || !implicit[i] {
				left = append(left, arg)
			}
		}
		args = left
	}
	for _, arg := range args {
		e = api.Expr{Kind: api.XApply, Args: []api.Expr{e, arg}}
	}
	return e
}

// command is a command with something left out.
func (p *puncher) command(c api.Command) api.Command {
	c.Binders, c.Ctors, c.Tactics = slices.Clone(c.Binders), slices.Clone(c.Ctors), slices.Clone(c.Tactics)
	for i := range c.Binders {
		c.Binders[i].Type = p.expr(c.Binders[i].Type)
	}
	c.Type = p.expr(c.Type)
	if c.Kind == api.CDef || c.Kind == api.CTheorem && !c.ByTactics {
		c.Value = p.expr(c.Value)
	}
	for i := range c.Tactics {
		c.Tactics[i].Exprs = slices.Clone(c.Tactics[i].Exprs)
		for j := range c.Tactics[i].Exprs {
			c.Tactics[i].Exprs[j] = p.expr(c.Tactics[i].Exprs[j])
		}
	}
	for i := range c.Ctors {
		c.Ctors[i].Type = p.expr(c.Ctors[i].Type)
	}
	return c
}

// Drawn declarations of which something is left out: what is added is what the text says, and all holds that comes of it. What
// cannot be found is told at a place of the command, and leaves no trace: the same without anything left out is added behind it.
func TestPunched(t *testing.T) {
	t.Parallel()
	tried, found := 0, 0
	for seed := range int64(20) {
		env := libraryEnv(t)
		library := len(env.Decls())
		draws := newPool(seed, env)
		draws.declarations(25)
		p := &puncher{draws.Rand, signs{}, 100, 60, 60, int(seed % 3)}
		state := elab.New()
		s := &speller{Rand: draws.Rand}
		text := ""
		for _, d := range env.Decls() {
			whole, _ := s.command(d, p.Intn(3) == 0)
			punched := syntax.Print([]api.Command{p.command(whole)})
			tried++
			err := state.Run(parsed(t, punched)[0], 2000)
			if err == nil {
				found++
			} else {
				if code, at := api.Code(err); code <= 0 || at < 0 || at >= len(punched) {
					t.Errorf("%s: %s", punched, shown(err))
				}
				punched = syntax.Print([]api.Command{whole})
				if err := state.Run(parsed(t, punched)[0], 2000); err != nil {
					break // what it speaks of has been found to be something else
				}
			}
			p.signs.add(&whole)
			text += punched
		}
		r := prover.Process(text, 2000)
		tells(t, text, r)
		holds(t, "seed "+strconv.Itoa(int(seed)), r, 2000, library)
		if r.Err != nil {
			t.Errorf("seed %d: %s", seed, shown(r.Err))
		}
	}
	if found < tried/2 {
		t.Errorf("only %d of %d are found", found, tried)
	}
}
