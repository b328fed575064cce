// Package graph is layer 1: and-inverter graphs with structural hashing.
package graph

import (
	"slices"

	"parterre/api"
)

// firstLiteral is the smallest literal that is not a constant.
const firstLiteral = 2

// Right reports whether g is valid.
func Right(g api.Graph) bool {
	return right(g, &index{gates: g.Ands})
}

// Lit reports whether l is a literal of g. It asks nothing of g's gates but how many there are.
func Lit(g api.Graph, l int) bool {
	return 0 <= g.Inputs && g.Inputs <= api.MaxVars && 0 <= l && l < 2*variables(g)
}

// And returns g with the conjunction of a and b, and its literal.
func And(g api.Graph, a, b int) (api.Graph, int, api.Errno) {
	known := &index{gates: g.Ands}
	if !Lit(g, a) || !Lit(g, b) || !right(g, known) {
		return api.Graph{}, 0, api.ErrArg
	}
	if l, ok := simple(a, b); ok {
		return same(g), l, api.OK
	}
	gate := [2]int{max(a, b), min(a, b)}
	if place, ok := known.find(gate); ok {
		return same(g), literal(g, place), api.OK
	}
	if variables(g) == api.MaxVars {
		return api.Graph{}, 0, api.ErrLong
	}
	return extended(g, gate), literal(g, len(g.Ands)), api.OK
}

// Or returns g with the disjunction of a and b, and its literal.
func Or(g api.Graph, a, b int) (api.Graph, int, api.Errno) {
	if a < 0 || b < 0 {
		return api.Graph{}, 0, api.ErrArg
	}
	h, l, err := And(g, negated(a), negated(b))
	if err != api.OK {
		return api.Graph{}, 0, err
	}
	return h, negated(l), api.OK
}

// Ite returns g with "a if c, b otherwise", and its literal.
func Ite(g api.Graph, c, a, b int) (api.Graph, int, api.Errno) {
	if c < 0 {
		return api.Graph{}, 0, api.ErrArg
	}
	g, yes, err := And(g, c, a)
	if err != api.OK {
		return api.Graph{}, 0, err
	}
	g, no, err := And(g, negated(c), b)
	if err != api.OK {
		return api.Graph{}, 0, err
	}
	return Or(g, yes, no)
}

// right is Right with an index of g's gates, so that who looks gates up afterwards need not build another one.
func right(g api.Graph, known *index) bool {
	return fits(g) && ordered(g) && !known.repeats()
}

// fits looks at Inputs by itself first: the sum with a huge number would wrap round.
func fits(g api.Graph) bool {
	return 0 <= g.Inputs && g.Inputs <= api.MaxVars && variables(g) <= api.MaxVars
}

// ordered reports whether each gate stands on smaller variables, the greater one first.
func ordered(g api.Graph) bool {
	own := g.Inputs + 1
	for _, gate := range g.Ands {
		if gate[0] < firstLiteral || gate[1] < firstLiteral {
			return false
		}
		if variable(gate[0]) <= variable(gate[1]) || variable(gate[0]) >= own {
			return false
		}
		own++
	}
	return true
}

// simple returns the literal of a conjunction that needs no gate, and whether it is one.
func simple(a, b int) (int, bool) {
	switch {
	case a == 0 || b == 0 || a == negated(b):
		return 0, true
	case a == 1:
		return b, true
	case b == 1 || a == b:
		return a, true
	}
	return 0, false
}

// same returns g in memory of its own: nobody's writing into a result reaches an argument.
func same(g api.Graph) api.Graph {
	return api.Graph{Inputs: g.Inputs, Ands: slices.Clone(g.Ands)}
}

// extended copies rather than appends in place, since the memory behind g's gates may be somebody else's.
func extended(g api.Graph, gate [2]int) api.Graph {
	return api.Graph{Inputs: g.Inputs, Ands: slices.Concat(g.Ands, [][2]int{gate})}
}

func variables(g api.Graph) int { return 1 + g.Inputs + len(g.Ands) }

func variable(l int) int { return l / 2 }

func negated(l int) int { return l ^ 1 }

// literal returns the literal of the gate at a place in g's list.
func literal(g api.Graph, place int) int { return 2 * (1 + g.Inputs + place) }
