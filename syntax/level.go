package syntax

import "provekernel/api"

// mostSuccessors: how many may stand one upon another, and the greatest number.
const mostSuccessors = 99

// levels reads those that are given to a name, up to the closing bracket.
func (r *reader) levels() []api.Level {
	ls := []api.Level{r.level()}
	for r.took(",") {
		ls = append(ls, r.level())
	}
	r.expect("}")
	return ls
}

// universe reads Prop, Type or Sort, and what follows it: its level.
func (r *reader) universe() api.Level {
	switch {
	case r.took("Prop"):
		return api.Level{Kind: api.Zero}
	case r.took("Sort"):
		return r.levelAtom()
	}
	r.expect("Type")
	n := 0
	if r.ahead.kind == digits {
		n = r.number(mostSuccessors - 1)
	}
	return raised(api.Level{Kind: api.Zero}, n+1)
}

func (r *reader) level() api.Level {
	switch {
	case r.took("max"):
		return r.greater(api.Max)
	case r.took("imax"):
		return r.greater(api.IMax)
	}
	l := r.levelAtom()
	for r.took("+") {
		l = raised(l, r.number(mostSuccessors-successors(l)))
	}
	return l
}

// greater reads the two levels of which that kind is the greater one.
func (r *reader) greater(kind int) api.Level {
	a := r.levelAtom()
	return api.Level{Kind: kind, Args: []api.Level{a, r.levelAtom()}}
}

func (r *reader) levelAtom() api.Level {
	switch {
	case r.ahead.kind == digits:
		return raised(api.Level{Kind: api.Zero}, r.number(mostSuccessors))
	case r.took("("):
		l := r.level()
		r.expect(")")
		return l
	}
	return api.Level{Kind: api.Param, Name: r.name().text}
}

// raised is n successors of a level.
func raised(l api.Level, n int) api.Level {
	for range n {
		l = api.Level{Kind: api.Succ, Args: []api.Level{l}}
	}
	return l
}

// successors: how many stand one upon another at a level's top.
func successors(l api.Level) int {
	n := 0
	for l.Kind == api.Succ {
		l = l.Args[0]
		n++
	}
	return n
}
