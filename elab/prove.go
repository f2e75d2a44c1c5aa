package elab

import (
	"provekernel/api"
	"provekernel/check"
	"provekernel/fault"
	"provekernel/tactic"
)

// prove is what a theorem by tactics becomes. What its type leaves open may be found by its proof. As far as it leaves nothing
// open, the kernel's word on it goes ahead of the proof.
func (j *judge) prove(c *api.Command, made draft, d *drafter) api.Decl {
	text := j.mark()
	spelt := text.terms == 0 && text.levels == 0
	if spelt {
		j.tryType(c, made)
	}
	start := tactic.Context{Locals: j.head(made, !spelt || d.claims > 0)}
	for i := range c.Binders {
		start.Names = append(start.Names, c.Binders[i].Name)
	}
	if _, open := j.leftOpen(mark{}, text, false); !spelt && !open {
		j.tryType(c, made)
	}
	b := &bench{judge: j, params: c.Params, claims: d.claims}
	value := tactic.Prove(b, c, start, j.term(made.typ, start.Locals))
	if at, open := j.leftOpen(mark{}, text, false); open {
		fault.ThrowAt(api.FStuck, at)
	}
	theorem := j.typed(api.Def, c, made)
	theorem.Value = j.behind(api.Lam, made.binders, value)
	return theorem
}

// head is the variables of a command's binders; looks: what is left open in these and in the type is looked for, too.
func (j *judge) head(made draft, looks bool) scope {
	if looks {
		s := j.lookHead(made)
		j.settle()
		return s
	}
	var s scope
	for _, n := range made.binders {
		s = append(s, j.newLocal(j.term(n, s)))
	}
	return s
}

// tryType throws what the kernel says of a theorem's type.
func (j *judge) tryType(c *api.Command, made draft) {
	pass(check.Decl(j.state.env, j.typed(api.Axiom, c, made), j.fuel))
}
