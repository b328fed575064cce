package space

import (
	"parterre/api"
	"parterre/circuit"
	"parterre/eval"
)

// open is the Reset of a latch that may have either value at first.
const open = 2

// table holds the values of all variables of a circuit by state, so that no gate is evaluated again for each of the many literals that are asked for.
type table struct {
	api.Circuit
	values [][]bool
}

// evaluated returns the table of a valid circuit with so many inputs and latches.
func evaluated(c api.Circuit, bits int) table {
	g := circuit.Of(c)
	var values [][]bool
	for state := range 1 << bits {
		values = append(values, eval.All(g, list(bits, func(i int) bool { return bit(state, i) == 1 })))
	}
	return table{c, values}
}

func (t table) size() int { return len(t.values) }

// value returns the value of a literal in a state.
func (t table) value(state, l int) bool { return t.values[state][l/2] != (l%2 == 1) }

// allowed reports whether all Constraints are true in a state.
func (t table) allowed(state int) bool {
	for _, l := range t.Constraints {
		if !t.value(state, l) {
			return false
		}
	}
	return true
}

// reset reports whether each latch has a value that it may have at first.
func (t table) reset(state int) bool {
	for i, latch := range t.Latches {
		if latch.Reset != open && latch.Reset != bit(state, t.Inputs+i) {
			return false
		}
	}
	return true
}

// steps returns what the steps of the circuit depend on, which spares them a look at all other signals in each state.
func (t table) steps() api.Circuit {
	return api.Circuit{Inputs: t.Inputs, Latches: t.Latches, Ands: t.Ands}
}

func bit(state, i int) int { return state >> i & 1 }
