package small

// equal tells whether two values are: whether they have the same form, part by part.
func (l *looker) equal(a, b *thunk) bool {
	if a == b {
		return true
	}
	l.look()
	l.enter()
	defer l.leave()
	switch x := l.force(a).(type) {
	case *universe:
		y, ok := l.force(b).(*universe)
		return ok && x.rank.same(y.rank)
	case *product:
		y, ok := l.force(b).(*product)
		return ok && l.equal(x.domain, y.domain) && l.equalUnder(x.codomain, y.codomain)
	case *function:
		switch y := l.force(b).(type) {
		case *function:
			return l.equal(x.domain, y.domain) && l.equalUnder(l.applying(a), l.applying(b))
		case *stuck:
			return l.equalUnder(l.applying(a), l.applying(b))
		}
	case *stuck:
		switch y := l.force(b).(type) {
		case *function:
			return l.equalUnder(l.applying(a), l.applying(b))
		case *stuck:
			return sameHead(x.head, y.head) && l.equalAll(x.args, y.args)
		}
	}
	return false
}

// applying is a value as a function of the language. So a function is held against what is none: it is equal to it where it
// does no more than to apply that.
func (l *looker) applying(f *thunk) func(v *thunk) *thunk {
	if x, ok := l.force(f).(*function); ok {
		return func(v *thunk) *thunk { return later(func() value { return x.body(v) }) }
	}
	return func(v *thunk) *thunk { return l.with(f, []*thunk{v}) }
}

// equalUnder tells whether two functions of the language answer the same, whatever they are asked.
func (l *looker) equalUnder(f, g func(v *thunk) *thunk) bool {
	v := l.variable()
	return l.equal(f(v), g(v))
}

func (l *looker) equalAll(as, bs []*thunk) bool {
	if len(as) != len(bs) {
		return false
	}
	for i := range as {
		if !l.equal(as[i], bs[i]) {
			return false
		}
	}
	return true
}

func sameHead(a, b head) bool {
	if a.constant != b.constant || a.variable != b.variable {
		return false
	}
	for i := range a.ranks {
		if !a.ranks[i].same(b.ranks[i]) {
			return false
		}
	}
	return true
}
