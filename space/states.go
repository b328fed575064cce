package space

import "parterre/circuit"

// states is a table with the states that are valid: all that it says of a state holds for these only.
type states struct {
	table
	valid []bool
}

func (s states) initial(state int) bool { return s.valid[state] && s.reset(state) }

// fair returns, for each Fair, the list of whether it is true in a state.
func (s states) fair() [][]bool {
	lists := make([][]bool, len(s.Fair))
	for i, l := range s.Fair {
		lists[i] = list(s.size(), func(state int) bool { return s.valid[state] && s.value(state, l) })
	}
	return lists
}

// next returns the successors of each state.
func (s states) next() [][]int {
	steps := s.steps()
	lists := make([][]int, s.size())
	for state := range s.size() {
		if s.valid[state] {
			lists[state] = s.from(circuit.After(steps, state))
		}
	}
	return lists
}

// from returns the valid states that differ in inputs only from first, in which all inputs are false. Inputs are the lowest bits of a state, so these states follow one another.
func (s states) from(first int) []int {
	var found []int
	for inputs := range 1 << s.Inputs {
		if state := first + inputs; s.valid[state] {
			found = append(found, state)
		}
	}
	return found
}
