package derive

import "provekernel/api"

// context: the types of the free variables. The same one is made once.
type context struct {
	outer  *context
	typ    *node // of the innermost variable
	number int
	count  int        // how many variables there are
	size   int        // how many parts their types have together
	types  []api.Term // once they have been told
	taken  bool       // whether another context's types go on behind these, in one list with them
}

// find is the context whose innermost variable is that one; nil: there is none.
func (c *context) find(n int) *context {
	if n < 0 || n >= c.count {
		return nil
	}
	for range n {
		c = c.outer
	}
	return c
}

// with is a context with one more variable.
func (d *deriver) with(c *context, typ *node) *context {
	at := place{c.number, typ.mark}
	if known, ok := d.inner[at]; ok && d.same(d.contexts[known].typ, typ) {
		return d.contexts[known]
	}
	made := &context{outer: c, typ: typ, number: len(d.contexts), count: c.count + 1, size: c.size + typ.size}
	d.inner[at] = made.number
	d.contexts = append(d.contexts, made)
	return made
}

// types are those of a context, the outermost first. Contexts share their fronts: the first that is told behind another goes
// on in its list, the next ones copy that.
func (d *deriver) types(c *context) []api.Term {
	if c.types == nil && c.count > 0 {
		front := d.types(c.outer)
		if c.outer.taken {
			d.room(len(front))
			front = front[:len(front):len(front)]
		}
		c.outer.taken = true
		c.types = append(front, c.typ.Term)
	}
	return c.types
}
