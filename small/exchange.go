package small

// exchange: what comes to stand in the place of variables.
type exchange struct {
	outer    *exchange
	variable int
	stands   *thunk
}

// find is what stands in the place of a variable; nil: it stays.
func (s *exchange) find(variable int) *thunk {
	for ; s != nil; s = s.outer {
		if s.variable == variable {
			return s.stands
		}
	}
	return nil
}

// exchanged is a value with other things in the place of variables, once it is asked for. It is found from what the value comes
// to as it is, which is found but once: those steps need not be taken again for each thing.
func (l *looker) exchanged(t *thunk, s *exchange) *thunk {
	if s == nil || t.closed {
		return t
	}
	if v, ok := t.made.(*stuck); ok && v.constant == nil && len(v.args) == 0 {
		if put := s.find(v.variable); put != nil {
			return put
		}
		return t
	}
	return later(func() value { return l.exchangedForm(l.force(t), s) })
}

// exchangedForm is likewise. What is stuck may be so no longer.
func (l *looker) exchangedForm(v value, s *exchange) value {
	switch x := v.(type) {
	case *product:
		return &product{l.exchanged(x.domain, s), func(v *thunk) *thunk { return l.exchanged(x.codomain(v), s) }}
	case *function:
		return &function{l.exchanged(x.domain, s), func(v *thunk) value { return l.exchangedForm(x.body(v), s) }}
	case *stuck:
		args := make([]*thunk, len(x.args))
		for i, arg := range x.args {
			args[i] = l.exchanged(arg, s)
		}
		if put := s.find(x.variable); x.constant == nil && put != nil {
			return l.apply(l.force(put), args)
		}
		return l.apply(&stuck{head: x.head}, args)
	}
	return v
}
