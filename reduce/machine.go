package reduce

import (
	"slices"

	"provekernel/api"
	"provekernel/fault"
	"provekernel/tree"
)

// mostPending: how many arguments may wait at once, those of majors within majors counted together. What comes so far takes
// steps without end, or is far larger than the document allows.
const mostPending = 1 << 20

// tire throws the fault that says that there is too little fuel.
func tire() { fault.Throw(api.FTired) }

// machine takes steps in an environment. It keeps on lists of its own what waits, since majors may lie within majors as deep
// as there is fuel.
type machine struct {
	env   *Env
	left  int      // how many steps may still be taken
	stack []*thunk // arguments that wait for a head, the first one of a spine on top
	tasks []task
	parts int  // of the term that is being told, so far
	eta   bool // whether (lam A (app f #0)) is told as f
}

// task: something is to be brought to weak head normal form.
type task struct {
	what *thunk
	rec  closure // the recursor whose major it is, if it is one
	base int     // where on the stack its own arguments begin
	left int     // how many steps were left when it began
}

// spend counts steps.
func (m *machine) spend(steps int) {
	if m.left < steps {
		tire()
	}
	m.left -= steps
}

// push makes these the first arguments.
func (m *machine) push(args ...*thunk) {
	if len(m.stack)+len(args) > mostPending {
		tire()
	}
	for i := range args {
		m.stack = append(m.stack, args[len(args)-1-i])
	}
}

// first are the first n arguments, in their order.
func (m *machine) first(n int) []*thunk {
	args := slices.Clone(m.stack[len(m.stack)-n:])
	slices.Reverse(args)
	return args
}

// pop takes the first n arguments away.
func (m *machine) pop(n int) []*thunk {
	args := m.first(n)
	m.stack = m.stack[:len(m.stack)-n]
	return args
}

// waiting tells how many arguments the head of the last task has.
func (m *machine) waiting() int { return len(m.stack) - m.tasks[len(m.tasks)-1].base }

// run brings something to weak head normal form: the answer is its head; its arguments wait on the stack.
func (m *machine) run(what *thunk) closure {
	outer := len(m.tasks)
	c, formed := m.begin(what, closure{})
	for {
		for !formed {
			c, formed = m.move(c)
		}
		done := m.end(c)
		if len(m.tasks) == outer {
			return c
		}
		c, formed = m.resume(done, c)
	}
}

// begin makes something the last task: where to go on with it, and whether that is its form already.
func (m *machine) begin(what *thunk, rec closure) (closure, bool) {
	m.tasks = append(m.tasks, task{what, rec, len(m.stack), m.left})
	f := what.form
	if f == nil {
		return what.closure, false
	}
	m.spend(f.steps)
	m.push(f.args...)
	return f.head, true
}

// end takes the last task away, whose form has been found: that head, and the arguments on the stack from its base on.
func (m *machine) end(head closure) task {
	last := len(m.tasks) - 1
	done := m.tasks[last]
	m.tasks = m.tasks[:last]
	if done.what.form == nil {
		done.what.form = &form{head, m.first(len(m.stack) - done.base), done.left - m.left}
	}
	return done
}

// move goes on by one step, or looks further for the head; true: there is neither, it has its form.
func (m *machine) move(c closure) (closure, bool) {
	t, s := c.term, c.scope
	switch {
	case t.Kind == api.Var && s != nil:
		return s.find(t.N).closure, false
	case tree.Is(t, api.App):
		m.push(s.enclose(&t.Args[1]))
		return closure{&t.Args[0], s}, false
	case tree.Is(t, api.Lam) && m.waiting() > 0:
		m.spend(1)
		return closure{&t.Args[1], s.with(m.pop(1)...)}, false
	case tree.Is(t, api.Let):
		m.spend(1)
		return closure{&t.Args[2], s.with(s.enclose(&t.Args[1]))}, false
	case t.Kind == api.Const:
		return m.unfold(c)
	}
	return c, true
}

// unfold is move where the head is a constant.
func (m *machine) unfold(c closure) (closure, bool) {
	known := m.env.find(c.term.Name)
	switch {
	case known.kind == definition:
		m.spend(1)
		return closure{known.value, &scope{levels: c.scope.leveling().with(known.params, c.term.Levels)}}, false
	case known.kind == recursor && m.waiting() >= known.family.needed():
		major := m.stack[len(m.stack)-known.family.needed()]
		return m.begin(major, c)
	}
	return c, true
}

// resume goes on with a recursor when its major has been brought to a form with that head.
func (m *machine) resume(done task, head closure) (closure, bool) {
	args := m.pop(len(m.stack) - done.base)
	f := m.env.find(done.rec.term.Name).family
	number := m.built(head, f, len(args))
	if number < 0 {
		return done.rec, true
	}
	m.spend(1)
	own := args[f.params:]
	given := m.pop(f.needed())
	m.push(m.hypotheses(done.rec, head, given[:f.given()], own)...)
	m.push(own...)
	return given[f.params+1+number].closure, false
}

// built tells by which of the family's constructors a form is built that has that head and so many arguments; -1: by none.
func (m *machine) built(head closure, f *family, args int) int {
	if head.term.Kind != api.Const {
		return -1
	}
	known := m.env.find(head.term.Name)
	if known.kind != constructor || known.family != f || args != f.params+f.ctors[known.number].args {
		return -1
	}
	return known.number
}

// hypotheses are those of a constructor's recursive arguments; given: the recursor's parameters, motive and minors; own: the
// constructor's arguments behind the parameters.
func (m *machine) hypotheses(rec, head closure, given, own []*thunk) []*thunk {
	known := m.env.find(head.term.Name)
	hs := known.family.ctors[known.number].hypotheses
	if len(hs) == 0 {
		return nil
	}
	levels, _ := rec.scope.leveling().putAll(rec.term.Levels)
	name := api.Term{Kind: api.Const, Name: rec.term.Name, Levels: levels}
	var none *scope
	around := none.with(none.enclose(&name)).with(given...)
	within := around.with(around.enclose(&known.family.again)).with(own...)
	within.levels = head.scope.leveling().with(known.params, head.term.Levels)
	var made []*thunk
	for i := range hs {
		made = append(made, within.enclose(&hs[i]))
	}
	return made
}
