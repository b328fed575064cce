package space_test

import (
	"math"
	"math/rand"
	"reflect"
	"slices"
	"strconv"
	"strings"
	"testing"
	"time"

	"parterre/aag"
	"parterre/api"
	"parterre/circuit"
	"parterre/graph"
	"parterre/space"
)

type gates = [][2]int

// inverted is the chapter's example: a latch that is inverted in each step, and 0 at first.
func inverted() api.Circuit { return api.Circuit{Latches: []api.Latch{{Next: 3}}} }

// sample has an input (2), two latches (4, 6) and a gate (8); the first latch becomes the input, the second one becomes the gate.
func sample() api.Circuit {
	return api.Circuit{
		Inputs:      1,
		Latches:     []api.Latch{{Next: 2, Reset: 1}, {Next: 8, Reset: 2}},
		Ands:        gates{{5, 2}},
		Outputs:     []int{9},
		Bads:        []int{8},
		Constraints: []int{9},
		Fair:        []int{7, 2},
		Names:       []api.Name{{Kind: 'i', At: 0, Text: "go"}, {Kind: 'f', At: 1, Text: "i1"}},
	}
}

// flags reads one boolean per letter: 1 is true.
func flags(text string) []bool {
	list := make([]bool, len(text))
	for i := range list {
		list[i] = text[i] == '1'
	}
	return list
}

// of is space.Of for a circuit that has a space.
func of(t *testing.T, c api.Circuit) api.Space {
	t.Helper()
	s, err := space.Of(c)
	if err != api.OK {
		t.Fatalf("L1: %+v: error %d", c, err)
	}
	return s
}

// equal compares two spaces; lists that are empty are equal, nil or not.
func equal(a, b api.Space) bool {
	return a.Bits == b.Bits && slices.Equal(a.Valid, b.Valid) && slices.Equal(a.Initial, b.Initial) &&
		slices.EqualFunc(a.Next, b.Next, slices.Equal[[]int]) && slices.EqualFunc(a.Fair, b.Fair, slices.Equal[[]bool])
}

// refused reports whether c has this error, and no space with it.
func refused(c api.Circuit, want api.Errno) bool {
	s, err := space.Of(c)
	return err == want && reflect.ValueOf(s).IsZero()
}

// plainLit is the value of a literal in a state, by the gates of a valid circuit.
func plainLit(c api.Circuit, state, l int) bool {
	v, bits := l/2, c.Inputs+len(c.Latches)
	is := false
	switch {
	case v > bits:
		gate := c.Ands[v-1-bits]
		is = plainLit(c, state, gate[0]) && plainLit(c, state, gate[1])
	case v > 0:
		is = state/(1<<(v-1))%2 == 1
	}
	return is == (l%2 == 0)
}

func plainValid(c api.Circuit, state int) bool {
	return !slices.ContainsFunc(c.Constraints, func(l int) bool { return !plainLit(c, state, l) })
}

func plainInitial(c api.Circuit, state int) bool {
	for i, latch := range c.Latches {
		is := plainLit(c, state, 2*(1+c.Inputs+i))
		if latch.Reset == 0 && is || latch.Reset == 1 && !is {
			return false
		}
	}
	return plainValid(c, state)
}

// plainFollows reports whether a state is a successor of another one.
func plainFollows(c api.Circuit, state, next int) bool {
	for i, latch := range c.Latches {
		if plainLit(c, next, 2*(1+c.Inputs+i)) != plainLit(c, state, latch.Next) {
			return false
		}
	}
	return plainValid(c, state) && plainValid(c, next)
}

// plain is promise L1 read word by word, for a valid circuit that is small: it holds every two states against each other.
func plain(c api.Circuit) api.Space {
	s := api.Space{Bits: c.Inputs + len(c.Latches), Fair: make([][]bool, len(c.Fair))}
	for state := range 1 << s.Bits {
		s.Valid = append(s.Valid, plainValid(c, state))
		s.Initial = append(s.Initial, plainInitial(c, state))
		var next []int
		for other := range 1 << s.Bits {
			if plainFollows(c, state, other) {
				next = append(next, other)
			}
		}
		s.Next = append(s.Next, next)
		for i, l := range c.Fair {
			s.Fair[i] = append(s.Fair[i], plainValid(c, state) && plainLit(c, state, l))
		}
	}
	return s
}

// cloned returns c in memory of its own, with room behind each list.
func cloned(c api.Circuit) api.Circuit {
	c.Latches = append(make([]api.Latch, 0, len(c.Latches)+3), c.Latches...)
	c.Ands = append(make(gates, 0, len(c.Ands)+3), c.Ands...)
	c.Names = append(make([]api.Name, 0, len(c.Names)+3), c.Names...)
	for _, list := range []*[]int{&c.Outputs, &c.Bads, &c.Constraints, &c.Fair} {
		*list = append(make([]int, 0, len(*list)+3), *list...)
	}
	return c
}

// whole returns c with each list up to its capacity, so that what lies behind the lists is compared too.
func whole(c api.Circuit) api.Circuit {
	c.Latches = c.Latches[:cap(c.Latches)]
	c.Ands = c.Ands[:cap(c.Ands)]
	c.Names = c.Names[:cap(c.Names)]
	for _, list := range []*[]int{&c.Outputs, &c.Bads, &c.Constraints, &c.Fair} {
		*list = (*list)[:cap(*list)]
	}
	return c
}

// randomCircuit returns a valid circuit with at most so many inputs and latches.
func randomCircuit(r *rand.Rand, most int) api.Circuit {
	c := api.Circuit{Inputs: r.Intn(most/2 + 1)}
	g := api.Graph{Inputs: c.Inputs + r.Intn(most-c.Inputs+1)}
	latches := g.Inputs - c.Inputs
	for range r.Intn(12) {
		vars := 1 + g.Inputs + len(g.Ands)
		g, _, _ = graph.And(g, r.Intn(2*vars), r.Intn(2*vars))
	}
	c.Ands = g.Ands
	literals := func(n int) []int {
		list := make([]int, n)
		for i := range list {
			list[i] = r.Intn(2 * (1 + g.Inputs + len(g.Ands)))
		}
		return list
	}
	for _, next := range literals(latches) {
		c.Latches = append(c.Latches, api.Latch{Next: next, Reset: r.Intn(3)})
	}
	c.Outputs, c.Bads, c.Constraints, c.Fair = literals(r.Intn(3)), literals(r.Intn(3)), literals(r.Intn(3)), literals(r.Intn(4))
	if c.Inputs > 0 && r.Intn(2) == 0 {
		c.Names = []api.Name{{Kind: 'i', At: r.Intn(c.Inputs), Text: "c0"}}
	}
	return c
}

func TestExample(t *testing.T) {
	want := api.Space{Bits: 1, Valid: flags("11"), Initial: flags("10"), Next: [][]int{{1}, {0}}}
	if s := of(t, inverted()); !equal(s, want) {
		t.Errorf("L1: example 1: %+v", s)
	}
	c, err := aag.Parse("aag 1 0 1 0 0\n2 3\n")
	if s := of(t, c); err != api.OK || !equal(s, want) {
		t.Errorf("L1: example 1, read from its text: %+v", s)
	}
}

// TestSample: states are numbered by the bits of the input (1) and the latches (2, 4); the gate is true in 1 and 5, which therefore aren't valid.
func TestSample(t *testing.T) {
	want := api.Space{
		Bits:    3,
		Valid:   flags("10111011"),
		Initial: flags("00110011"),
		Next:    [][]int{{0}, nil, {0}, {2, 3}, {0}, nil, {0}, {2, 3}},
		Fair:    [][]bool{flags("10110000"), flags("00010001")},
	}
	if s := of(t, sample()); !equal(s, want) {
		t.Errorf("L1: %+v", s)
	}
}

func TestSmallCircuits(t *testing.T) {
	for _, x := range []struct {
		name string
		c    api.Circuit
		want api.Space
	}{
		{"nothing", api.Circuit{}, api.Space{Valid: flags("1"), Initial: flags("1"), Next: [][]int{{0}}}},
		{"nothing, and nothing allowed", api.Circuit{Constraints: []int{0}, Fair: []int{0, 1}}, api.Space{Valid: flags("0"), Initial: flags("0"), Next: [][]int{nil}, Fair: [][]bool{{false}, {false}}}},
		{"constants", api.Circuit{Constraints: []int{1}, Fair: []int{0, 1, 1}}, api.Space{Valid: flags("1"), Initial: flags("1"), Next: [][]int{{0}}, Fair: [][]bool{{false}, {true}, {true}}}},
		{"an input", api.Circuit{Inputs: 1, Fair: []int{2}}, api.Space{Bits: 1, Valid: flags("11"), Initial: flags("11"), Next: [][]int{{0, 1}, {0, 1}}, Fair: [][]bool{flags("01")}}},
		{"an input that is 1", api.Circuit{Inputs: 1, Constraints: []int{2}, Fair: []int{3, 1}}, api.Space{Bits: 1, Valid: flags("01"), Initial: flags("01"), Next: [][]int{nil, {1}}, Fair: [][]bool{flags("00"), flags("01")}}},
		{"an input that is 0", api.Circuit{Inputs: 1, Constraints: []int{3, 1}}, api.Space{Bits: 1, Valid: flags("10"), Initial: flags("10"), Next: [][]int{{0}, nil}}},
		{"an input that is both", api.Circuit{Inputs: 1, Constraints: []int{3, 2}}, api.Space{Bits: 1, Valid: flags("00"), Initial: flags("00"), Next: [][]int{nil, nil}}},
		{"no way on", api.Circuit{Latches: []api.Latch{{Next: 1}}, Constraints: []int{3}, Fair: []int{1}}, api.Space{Bits: 1, Valid: flags("10"), Initial: flags("10"), Next: [][]int{nil, nil}, Fair: [][]bool{flags("10")}}},
		{"1 at first", api.Circuit{Latches: []api.Latch{{Next: 2, Reset: 1}}}, api.Space{Bits: 1, Valid: flags("11"), Initial: flags("01"), Next: [][]int{{0}, {1}}}},
		{"either at first", api.Circuit{Latches: []api.Latch{{Next: 0, Reset: 2}}}, api.Space{Bits: 1, Valid: flags("11"), Initial: flags("11"), Next: [][]int{{0}, {0}}}},
		{"0 at first, which isn't allowed", api.Circuit{Latches: []api.Latch{{Next: 3}}, Constraints: []int{2}}, api.Space{Bits: 1, Valid: flags("01"), Initial: flags("00"), Next: [][]int{nil, nil}}},
		{"a latch, then an input would be wrong", api.Circuit{Inputs: 1, Latches: []api.Latch{{Next: 5, Reset: 1}}}, api.Space{Bits: 2, Valid: flags("1111"), Initial: flags("0011"), Next: [][]int{{2, 3}, {2, 3}, {0, 1}, {0, 1}}}},
		{"latches that are exchanged", api.Circuit{Latches: []api.Latch{{Next: 4, Reset: 1}, {Next: 2}}, Fair: []int{5, 2}}, api.Space{Bits: 2, Valid: flags("1111"), Initial: flags("0100"), Next: [][]int{{0}, {2}, {1}, {3}}, Fair: [][]bool{flags("1100"), flags("0101")}}},
		{"two inputs that differ", api.Circuit{Inputs: 2, Ands: gates{{4, 2}, {5, 3}}, Constraints: []int{7, 9}}, api.Space{Bits: 2, Valid: flags("0110"), Initial: flags("0110"), Next: [][]int{nil, {1, 2}, {1, 2}, nil}}},
		{"outputs and bads don't count", api.Circuit{Inputs: 1, Outputs: []int{0, 2}, Bads: []int{1, 3}}, api.Space{Bits: 1, Valid: flags("11"), Initial: flags("11"), Next: [][]int{{0, 1}, {0, 1}}}},
	} {
		if s := of(t, x.c); !equal(s, x.want) {
			t.Errorf("L1: %s: %+v, want %+v", x.name, s, x.want)
		}
	}
}

// TestConstraintsOfSuccessors: the constraint looks at the input of the next state, not at that of the state before.
func TestConstraintsOfSuccessors(t *testing.T) {
	// The latch becomes the input, and the input has to be what the latch is not.
	c := api.Circuit{Inputs: 1, Latches: []api.Latch{{Next: 2}}, Ands: gates{{4, 2}, {5, 3}}, Constraints: []int{7, 9}}
	s := of(t, c)
	if !equal(s, api.Space{Bits: 2, Valid: flags("0110"), Initial: flags("0100"), Next: [][]int{nil, {2}, {1}, nil}}) {
		t.Errorf("L1: %+v", s)
	}
}

// TestCounter: ten latches that count, so that every state has one successor.
func TestCounter(t *testing.T) {
	g := api.Graph{Inputs: 10}
	c := api.Circuit{}
	carry := 1
	for i := range 10 {
		bit := 2 * (i + 1)
		var both, neither, differ, err = 0, 0, 0, api.OK
		g, both, err = graph.And(g, bit, carry)
		g, neither, _ = graph.And(g, bit^1, carry^1)
		g, differ, _ = graph.And(g, both^1, neither^1)
		if err != api.OK {
			t.Fatal(err)
		}
		c.Latches = append(c.Latches, api.Latch{Next: differ})
		carry = both
	}
	c.Ands = g.Ands
	s := of(t, c)
	if s.Bits != 10 || len(s.Next) != 1024 || len(s.Valid) != 1024 || len(s.Initial) != 1024 || len(s.Fair) != 0 {
		t.Fatalf("L1: %d bits, %d states", s.Bits, len(s.Next))
	}
	for state, next := range s.Next {
		if !slices.Equal(next, []int{(state + 1) % 1024}) || !s.Valid[state] || s.Initial[state] != (state == 0) {
			t.Errorf("L1: %d: next %v", state, next)
		}
	}
}

// TestResets goes through all Resets of three latches behind an input.
func TestResets(t *testing.T) {
	for resets := range 27 {
		all := []int{resets % 3, resets / 3 % 3, resets / 9}
		c := api.Circuit{Inputs: 1, Constraints: []int{1}}
		for _, reset := range all {
			c.Latches = append(c.Latches, api.Latch{Reset: reset})
		}
		s := of(t, c)
		for state := range 16 {
			want := true
			for i, reset := range all {
				want = want && (reset == 2 || state>>(1+i)&1 == reset)
			}
			if s.Initial[state] != want {
				t.Errorf("L1: Resets %v: state %d: %v", all, state, s.Initial[state])
			}
		}
	}
}

func TestNotValid(t *testing.T) {
	for name, c := range map[string]api.Circuit{
		"inputs":               {Inputs: -1},
		"fewest inputs":        {Inputs: math.MinInt, Latches: make([]api.Latch, 1)},
		"most inputs":          {Inputs: math.MaxInt},
		"most inputs, a latch": {Inputs: math.MaxInt, Latches: make([]api.Latch, 1)},
		"inputs below latches": {Inputs: -1, Latches: make([]api.Latch, 11)},
		"2001 inputs":          {Inputs: 2001},
		"2001 latches":         {Latches: make([]api.Latch, 2001)},
		"output":               {Outputs: []int{2}},
		"bad":                  {Bads: []int{2}},
		"constraint":           {Constraints: []int{2}},
		"constraint below 0":   {Constraints: []int{-1}},
		"fair":                 {Inputs: 1, Fair: []int{4}},
		"fair below 0":         {Inputs: 1, Fair: []int{0, -2}},
		"next":                 {Latches: []api.Latch{{Next: 4}}},
		"next below 0":         {Latches: []api.Latch{{Next: -1}}},
		"reset":                {Latches: []api.Latch{{Reset: 3}}},
		"reset below 0":        {Latches: []api.Latch{{Reset: -1}}},
		"gate":                 {Inputs: 1, Ands: gates{{3, 4}}},
		"gate of itself":       {Inputs: 1, Ands: gates{{4, 2}}},
		"name":                 {Inputs: 1, Names: []api.Name{{Kind: 'i', Text: ""}}},
		"name of no signal":    {Inputs: 1, Names: []api.Name{{Kind: 'i', At: 1, Text: "a"}}},
		"equal names":          {Inputs: 2, Names: []api.Name{{Kind: 'i', Text: "a"}, {Kind: 'i', At: 1, Text: "a"}}},
		"2001 fair":            {Fair: make([]int, 2001)},
		"2001 constraints":     {Constraints: make([]int, 2001)},
		"2001 outputs":         {Outputs: make([]int, 2001)},
		"2001 bads":            {Bads: make([]int, 2001)},
	} {
		if !refused(c, api.ErrArg) {
			t.Errorf("L1: %s: not ErrArg", name)
		}
	}
}

// TestNotValidAndTooLong: a circuit that isn't valid is ErrArg, even if it has too many inputs and latches.
func TestNotValidAndTooLong(t *testing.T) {
	long := func() api.Circuit { return api.Circuit{Inputs: 6, Latches: make([]api.Latch, 5)} }
	if !refused(long(), api.ErrLong) {
		t.Error("L1: 11 inputs and latches: not ErrLong")
	}
	for name, spoil := range map[string]func(c *api.Circuit){
		"output":     func(c *api.Circuit) { c.Outputs = []int{24} },
		"bad":        func(c *api.Circuit) { c.Bads = []int{24} },
		"constraint": func(c *api.Circuit) { c.Constraints = []int{24} },
		"fair":       func(c *api.Circuit) { c.Fair = []int{24} },
		"next":       func(c *api.Circuit) { c.Latches[4].Next = 24 },
		"reset":      func(c *api.Circuit) { c.Latches[4].Reset = 3 },
		"gate":       func(c *api.Circuit) { c.Ands = gates{{2, 4}} },
		"name":       func(c *api.Circuit) { c.Names = []api.Name{{Kind: 'o', Text: "a"}} },
		"2001":       func(c *api.Circuit) { c.Inputs = 2001 },
	} {
		c := long()
		if spoil(&c); !refused(c, api.ErrArg) {
			t.Errorf("L1: 11 inputs and latches, %s: not ErrArg", name)
		}
	}
}

func TestMaxStates(t *testing.T) {
	for bits := range 14 {
		for inputs := range bits + 1 {
			c := api.Circuit{Inputs: inputs, Latches: make([]api.Latch, bits-inputs), Constraints: []int{0}}
			if bits > 10 {
				if !refused(c, api.ErrLong) {
					t.Errorf("L1: %d inputs of %d: not ErrLong", inputs, bits)
				}
				continue
			}
			if s := of(t, c); s.Bits != bits || len(s.Valid) != 1<<bits || len(s.Initial) != 1<<bits || len(s.Next) != 1<<bits {
				t.Errorf("L1: %d inputs of %d: %d bits, %d states", inputs, bits, s.Bits, len(s.Valid))
			}
		}
	}
	for _, bits := range []int{60, 61, 63, 64, 65, 1000, 1999} {
		for _, inputs := range []int{0, 1, bits - 1, bits} {
			if !refused(api.Circuit{Inputs: inputs, Latches: make([]api.Latch, bits-inputs)}, api.ErrLong) {
				t.Errorf("L1: %d inputs of %d: not ErrLong", inputs, bits)
			}
		}
	}
}

// TestShapes: all numbers of inputs and latches that are 7 in all, or fewer.
func TestShapes(t *testing.T) {
	for bits := range 8 {
		for inputs := range bits + 1 {
			c := api.Circuit{Inputs: inputs, Fair: []int{1}}
			for i := range bits - inputs {
				c.Latches = append(c.Latches, api.Latch{Next: 2*bits - 2*i + i%2, Reset: i % 3})
			}
			if bits > 0 {
				c.Fair = append(c.Fair, 2*bits, 3)
			}
			if s := of(t, c); !equal(s, plain(c)) {
				t.Errorf("L1: %d inputs of %d: %+v", inputs, bits, s)
			}
		}
	}
}

func TestRandomCircuits(t *testing.T) {
	r := rand.New(rand.NewSource(11))
	invalid, initial, several, none, fair := 0, 0, 0, 0, 0
	for range 3000 {
		c := randomCircuit(r, 5)
		s := of(t, c)
		if want := plain(c); !equal(s, want) {
			t.Fatalf("L1: %+v:\n%+v, want\n%+v", c, s, want)
		}
		for state, valid := range s.Valid {
			switch {
			case !valid:
				invalid++
			case len(s.Next[state]) > 1:
				several++
			case len(s.Next[state]) == 0:
				none++
			}
			if s.Initial[state] {
				initial++
			}
			for _, list := range s.Fair {
				if list[state] {
					fair++
				}
			}
		}
	}
	if min(invalid, initial, several, none, fair) < 1000 {
		t.Errorf("too little tried: %d invalid, %d initial, %d with several successors, %d with none, %d fair", invalid, initial, several, none, fair)
	}
}

func TestRandomBigCircuits(t *testing.T) {
	r := rand.New(rand.NewSource(12))
	most := 0
	for range 40 {
		c := randomCircuit(r, 8)
		if s := of(t, c); !equal(s, plain(c)) {
			t.Fatalf("L1: %+v: %+v", c, s)
		}
		most = max(most, c.Inputs+len(c.Latches))
	}
	if most < 8 {
		t.Errorf("too little tried: at most %d inputs and latches", most)
	}
}

// TestTheorem is promise L2, on circuits of every size that there is.
func TestTheorem(t *testing.T) {
	r := rand.New(rand.NewSource(13))
	same := 0
	for range 300 {
		c := randomCircuit(r, 10)
		s := of(t, c)
		for state, next := range s.Next {
			if len(next) > 0 && !s.Valid[state] || s.Initial[state] && !s.Valid[state] {
				t.Fatalf("L2: %+v: state %d isn't valid", c, state)
			}
			for i, other := range next {
				if other < 0 || other >= len(s.Valid) || !s.Valid[other] || i > 0 && next[i-1] >= other {
					t.Fatalf("L2: %+v: the successors of %d are %v", c, state, next)
				}
			}
			for _, list := range s.Fair {
				if list[state] && !s.Valid[state] {
					t.Fatalf("L2: %+v: Fair state %d isn't valid", c, state)
				}
			}
		}
		same += sameSuccessors(t, c, s)
	}
	if same < 1000 {
		t.Errorf("too little tried: %d states that differ in such inputs", same)
	}
}

// sameSuccessors looks at each valid state and the one that differs in an input on which no Next depends, and returns how many of these there are.
func sameSuccessors(t *testing.T, c api.Circuit, s api.Space) int {
	t.Helper()
	found := 0
	for i := range c.Inputs {
		if depends(c, i) {
			continue
		}
		for state, valid := range s.Valid {
			if other := state ^ 1<<i; valid && s.Valid[other] {
				found++
				if !slices.Equal(s.Next[state], s.Next[other]) {
					t.Fatalf("L2: %+v: the successors of %d and %d", c, state, other)
				}
			}
		}
	}
	return found
}

// depends reports whether some Next stands on an input.
func depends(c api.Circuit, input int) bool {
	var stands func(l int) bool
	stands = func(l int) bool {
		v, bits := l/2, c.Inputs+len(c.Latches)
		if v > bits {
			return stands(c.Ands[v-1-bits][0]) || stands(c.Ands[v-1-bits][1])
		}
		return v == input+1
	}
	return slices.ContainsFunc(c.Latches, func(latch api.Latch) bool { return stands(latch.Next) })
}

// TestAfter holds the successors against layer 4: their latches are those of After, and no other valid state has these.
func TestAfter(t *testing.T) {
	r := rand.New(rand.NewSource(14))
	for range 200 {
		c := randomCircuit(r, 9)
		s := of(t, c)
		for state, valid := range s.Valid {
			if !valid {
				continue
			}
			var want []int
			for inputs := range 1 << c.Inputs {
				if other := circuit.After(c, state) | inputs; s.Valid[other] {
					want = append(want, other)
				}
			}
			if !slices.Equal(s.Next[state], want) {
				t.Fatalf("L1: %+v: the successors of %d are %v, want %v", c, state, s.Next[state], want)
			}
		}
	}
}

// most is as big as a circuit with a space can be: all lists are full, and all signals have names.
func most(t *testing.T) api.Circuit {
	t.Helper()
	g := api.Graph{Inputs: 10}
	for i := range 1989 {
		g.Ands = append(g.Ands, [2]int{2*(10+i) + i%2, 2 * (1 + i%10)})
	}
	last := 2 * (10 + len(g.Ands))
	lists := make([][]int, 4)
	for k := range lists {
		for i := range 2000 {
			lists[k] = append(lists[k], last-2*(i%1000))
		}
	}
	for i := range lists[2] {
		lists[2][i] = 1
	}
	c := api.Circuit{Inputs: 10, Ands: g.Ands, Outputs: lists[0], Bads: lists[1], Constraints: lists[2], Fair: lists[3]}
	for place, kind := range "iobcf" {
		for at := range []int{10, 2000, 2000, 2000, 2000}[place] {
			c.Names = append(c.Names, api.Name{Kind: byte(kind), At: at, Text: strings.Repeat("n", 12) + strconv.Itoa(len(c.Names))})
		}
	}
	if !circuit.Right(c) {
		t.Fatal("the circuit isn't valid")
	}
	return c
}

func TestBiggestCircuit(t *testing.T) {
	c := most(t)
	begin := time.Now()
	s := of(t, c)
	if took := time.Since(begin); took > 20*time.Second {
		t.Errorf("R1: %v for the biggest circuit", took)
	}
	if s.Bits != 10 || len(s.Fair) != 2000 || len(s.Next) != 1024 {
		t.Fatalf("L1: %d bits, %d Fair", s.Bits, len(s.Fair))
	}
	all := make([]int, 1024)
	for i := range all {
		all[i] = i
	}
	for state := range 1024 {
		if !s.Valid[state] || !s.Initial[state] || !slices.Equal(s.Next[state], all) {
			t.Fatalf("L1: state %d", state)
		}
		in := make([]bool, 1+len(c.Ands)+10)
		for i := range 10 {
			in[1+i] = state>>i&1 == 1
		}
		for i, gate := range c.Ands {
			in[11+i] = in[gate[0]/2] != (gate[0]%2 == 1) && in[gate[1]/2] != (gate[1]%2 == 1)
		}
		for i, l := range c.Fair {
			if s.Fair[i][state] != (in[l/2] != (l%2 == 1)) {
				t.Fatalf("L1: Fair %d in state %d", i, state)
			}
		}
	}
}

// TestEveryConstraintCounts: each place of the list may rule a state out, the last one too.
func TestEveryConstraintCounts(t *testing.T) {
	for place := range 2000 {
		if place > 3 && place < 1996 && place%499 != 0 {
			continue
		}
		c := api.Circuit{Inputs: 1, Constraints: make([]int, 2000)}
		for i := range c.Constraints {
			c.Constraints[i] = 1
		}
		c.Constraints[place] = 3
		if s := of(t, c); !slices.Equal(s.Valid, flags("10")) {
			t.Errorf("L1: Constraint %d doesn't count: %v", place, s.Valid)
		}
	}
}

// TestArgumentsStay is rule R3.
func TestArgumentsStay(t *testing.T) {
	r := rand.New(rand.NewSource(15))
	for i := range 300 {
		c := cloned(randomCircuit(r, 6))
		if i%3 == 0 {
			c.Outputs = append(c.Outputs, -1)
		}
		kept := cloned(whole(c))
		first, err := space.Of(c)
		if !reflect.DeepEqual(whole(c), kept) {
			t.Fatalf("R3: %+v is changed", kept)
		}
		if again, errAgain := space.Of(c); err != errAgain || !equal(again, first) {
			t.Fatalf("R4: %+v: a second call answers otherwise", c)
		}
	}
}

// TestMemory: the lists of an answer share no memory, with each other or with what the next call answers.
func TestMemory(t *testing.T) {
	c := api.Circuit{Inputs: 2, Latches: []api.Latch{{Next: 7, Reset: 2}}, Fair: []int{1, 1}}
	want := plain(c)
	s := of(t, c)
	for _, list := range append([][]bool{s.Valid, s.Initial}, s.Fair...) {
		if !slices.Equal(list, flags("11111111")) {
			t.Errorf("L1: a list that was written into shows in another one: %v", list)
		}
		for i := range list[:cap(list)] {
			list[:cap(list)][i] = false
		}
	}
	for state, next := range s.Next {
		if !slices.Equal(next, want.Next[state]) {
			t.Errorf("L1: a list that was written into shows in another one: %v", next)
		}
		for i := range next[:cap(next)] {
			next[:cap(next)][i] = -1
		}
	}
	if again := of(t, c); !equal(again, want) {
		t.Errorf("R4: what was written into an answer shows in the next one: %+v", again)
	}
}

// TestSignalsWithoutMeaning: names, Outputs and Bads make no difference.
func TestSignalsWithoutMeaning(t *testing.T) {
	r := rand.New(rand.NewSource(16))
	for range 300 {
		c := randomCircuit(r, 6)
		s := of(t, c)
		c.Names, c.Outputs, c.Bads = nil, []int{0}, nil
		if !equal(of(t, c), s) {
			t.Fatalf("L1: %+v: without names, Outputs and Bads there is another space", c)
		}
	}
}
