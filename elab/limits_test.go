package elab

import (
	"math/rand"
	"slices"
	"strings"
	"testing"
	"time"

	"provekernel/api"
	"provekernel/kernel"
	"provekernel/small"
	"provekernel/syntax"
)

// mixer makes commands of parts of others: most of them are wrong, in every way.
type mixer struct {
	*rand.Rand
	exprs []api.Expr // all that stand in the world and in the library
}

func newMixer(t *testing.T, seed int64) *mixer {
	m := &mixer{Rand: rand.New(rand.NewSource(seed))}
	for _, c := range parsed(t, world+library) {
		for _, b := range c.Binders {
			m.collect(b.Type)
		}
		m.collect(c.Type)
		for _, ctor := range c.Ctors {
			m.collect(ctor.Type)
		}
		if c.Kind == api.CDef || c.Kind == api.CTheorem {
			m.collect(c.Value)
		}
	}
	return m
}

func (m *mixer) collect(e api.Expr) {
	m.exprs = append(m.exprs, e)
	for _, arg := range e.Args {
		m.collect(arg)
	}
}

// expr is an expression with others in some places.
func (m *mixer) expr(e api.Expr, depth int) api.Expr {
	switch m.Intn(40) {
	case 0:
		return api.Expr{Kind: api.XHole}
	case 1:
		if depth < 3 {
			return m.expr(m.exprs[m.Intn(len(m.exprs))], depth+1)
		}
	case 2:
		return api.Expr{Kind: api.XApply, Args: []api.Expr{e, m.exprs[m.Intn(len(m.exprs))]}}
	case 3:
		if e.Kind == api.XName {
			e.Explicit = !e.Explicit && !e.Infix
		}
	case 4:
		return api.Expr{Kind: api.XIs, Args: []api.Expr{e, m.exprs[m.Intn(len(m.exprs))]}}
	case 5:
		return api.Expr{Kind: api.XLet, Name: "x", Args: []api.Expr{m.exprs[m.Intn(len(m.exprs))], m.exprs[m.Intn(len(m.exprs))], e}}
	}
	e.Args = slices.Clone(e.Args)
	for i := range e.Args {
		if e.Kind == api.XApply && e.Args[i].Kind == api.XName && e.Args[i].Infix || e.Kind == api.XApply && isEquation(e) && i == 0 {
			continue
		}
		e.Args[i] = m.expr(e.Args[i], depth)
	}
	return e
}

// isEquation tells whether an expression is the sign = between two others.
func isEquation(e api.Expr) bool {
	return e.Args[0].Kind == api.XApply && e.Args[0].Args[0].Kind == api.XName && e.Args[0].Args[0].Infix
}

func (m *mixer) command(c api.Command) api.Command {
	c.Name += "'"
	c.Binders, c.Ctors = slices.Clone(c.Binders), slices.Clone(c.Ctors)
	for i := range c.Binders {
		c.Binders[i].Type = m.expr(c.Binders[i].Type, 0)
	}
	c.Type = m.expr(c.Type, 0)
	if c.Kind == api.CDef || c.Kind == api.CTheorem {
		c.Value = m.expr(c.Value, 0)
	}
	for i := range c.Ctors {
		c.Ctors[i].Name += "'"
		c.Ctors[i].Type = m.expr(c.Ctors[i].Type, 0)
	}
	return c
}

// Any commands, with any fuel: no call panics, all end, and soon; what is added is what the text says, and is right.
func TestMixed(t *testing.T) {
	all := signs{}
	for _, c := range parsed(t, world+library) {
		all.add(&c)
	}
	longest, added := time.Duration(0), 0
	for seed := range int64(60) {
		m := newMixer(t, seed)
		s := libraryState(t)
		for _, c := range parsed(t, world+library) {
			text := syntax.Print([]api.Command{m.command(c)})
			again := parsed(t, text)[0]
			began := time.Now()
			err := s.Run(again, []int{0, 1, 10, 100, 3000, 100000}[m.Intn(6)])
			if took := time.Since(began); took > longest {
				longest = took
				t.Log(took, shown(err, 0), len(text))
			}
			if err != nil {
				if code, at := api.Code(err); code <= 0 || at < 0 || at >= len(text) {
					t.Errorf("%s: %s", text, shown(err, 0))
				}
				continue
			}
			all.add(&again)
			added++
			ds := s.Env().Decls()
			if !all.command(&again, &ds[len(ds)-1]) {
				t.Errorf("%s becomes something else", text)
			}
		}
		export := kernel.Export(s.Env())
		if n, err := small.Check(export, 100000); err != nil {
			t.Errorf("of %s only %d are right: %s", export, n, shown(err, 0))
		}
	}
	if added < 100 {
		t.Errorf("only %d are added", added)
	}
	t.Log(added, longest)
}

var _ = strings.Repeat
