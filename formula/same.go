package formula

import "parterre/api"

// pair is two formulas that have to be the same.
type pair struct{ a, b *api.Formula }

// Same reports whether a and b have the same kind, Name and Lit, and the same subformulas, in order.
//
// Neither formula need be valid: one may be too deep for recursion, have one subformula in many places, or contain itself. So each two formulas that have been looked at are taken to be the same from then on, which they are unless a difference is found somewhere else.
func Same(a, b api.Formula) bool {
	taken := classes{above: map[*api.Formula]*api.Formula{}}
	for open := []pair{{&a, &b}}; len(open) > 0; {
		next := open[len(open)-1]
		open = open[:len(open)-1]
		if !alike(next.a, next.b) {
			return false
		}
		if len(next.a.Kids) == 0 || !taken.join(next.a, next.b) {
			continue
		}
		for i := range next.a.Kids {
			open = append(open, pair{&next.a.Kids[i], &next.b.Kids[i]})
		}
	}
	return true
}

// alike reports whether a and b are the same as far as their subformulas are.
func alike(a, b *api.Formula) bool {
	return a.Kind == b.Kind && a.Name == b.Name && a.Lit == b.Lit && len(a.Kids) == len(b.Kids)
}

// classes holds which formulas are taken to be the same: from each of them, above leads to the same last one.
type classes struct {
	above map[*api.Formula]*api.Formula
}

// join takes a and b to be the same, and reports whether they were not so before.
func (c classes) join(a, b *api.Formula) bool {
	a, b = c.last(a), c.last(b)
	if a == b {
		return false
	}
	c.above[a] = b
	return true
}

// last shortens the way that it goes, so that it stays short for all.
func (c classes) last(f *api.Formula) *api.Formula {
	for next := c.above[f]; next != nil; next = c.above[f] {
		if further := c.above[next]; further != nil {
			c.above[f] = further
		}
		f = next
	}
	return f
}
