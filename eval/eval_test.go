package eval_test

import (
	"math"
	"math/rand"
	"slices"
	"testing"

	"parterre/api"
	"parterre/eval"
	"parterre/graph"
)

type gates = [][2]int

func count(g api.Graph) int { return 1 + g.Inputs + len(g.Ands) }

// plainEval is promise B1 read word by word, for a literal of a valid graph.
func plainEval(g api.Graph, l int, in []bool) bool {
	variable := l / 2
	var value bool
	switch {
	case variable == 0:
		value = false
	case variable <= g.Inputs:
		value = in[variable-1]
	default:
		gate := g.Ands[variable-1-g.Inputs]
		value = plainEval(g, gate[0], in) && plainEval(g, gate[1], in)
	}
	return value != (l%2 == 1)
}

// plainThree is promise B2 read word by word, for a literal of a valid graph.
func plainThree(g api.Graph, l int, in []int) int {
	if l%2 == 1 {
		switch plainThree(g, l-1, in) {
		case api.No:
			return api.Yes
		case api.Yes:
			return api.No
		}
		return api.Either
	}
	variable := l / 2
	switch {
	case variable == 0:
		return api.No
	case variable <= g.Inputs && (in[variable-1] == api.No || in[variable-1] == api.Yes):
		return in[variable-1]
	case variable <= g.Inputs:
		return api.Either
	}
	gate := g.Ands[variable-1-g.Inputs]
	a, b := plainThree(g, gate[0], in), plainThree(g, gate[1], in)
	switch {
	case a == api.No || b == api.No:
		return api.No
	case a == api.Yes && b == api.Yes:
		return api.Yes
	}
	return api.Either
}

// randomGraph adds a few gates to a graph with inputs.
func randomGraph(r *rand.Rand, inputs, most int) api.Graph {
	g := api.Graph{Inputs: inputs}
	for range r.Intn(most + 1) {
		g, _, _ = graph.And(g, r.Intn(2*count(g)), r.Intn(2*count(g)))
	}
	return g
}

// chain returns a valid graph with that many variables: each gate is the last variable, negated, and input 1.
func chain(vars int) api.Graph {
	g := api.Graph{Inputs: 2, Ands: gates{{4, 2}}}
	for count(g) < vars {
		g.Ands = append(g.Ands, [2]int{2*count(g) - 1, 2})
	}
	return g
}

// bools returns n values: bit i of bits is the value of input i + 1.
func bools(n, bits int) []bool {
	in := make([]bool, n)
	for i := range in {
		in[i] = bits>>i&1 == 1
	}
	return in
}

// threes returns all lists of n values of three-valued logic.
func threes(n int) [][]int {
	lists := [][]int{nil}
	for range n {
		var longer [][]int
		for _, list := range lists {
			for _, v := range []int{api.No, api.Yes, api.Either} {
				longer = append(longer, append(slices.Clone(list), v))
			}
		}
		lists = longer
	}
	return lists
}

// fitting reports whether values of the inputs agree with those that are not Either.
func fitting(in []bool, open []int) bool {
	for i, v := range open {
		if v == api.Yes && !in[i] || v == api.No && in[i] {
			return false
		}
	}
	return true
}

// invalid returns graphs that are not valid, by what is wrong with them.
func invalid() map[string]api.Graph {
	return map[string]api.Graph{
		"Inputs below 0":        {Inputs: -1},
		"smallest Inputs":       {Inputs: math.MinInt},
		"Inputs above MaxVars":  {Inputs: api.MaxVars + 1},
		"MaxVars inputs":        {Inputs: api.MaxVars},
		"constant literal":      {Inputs: 2, Ands: gates{{4, 1}}},
		"constant first":        {Inputs: 2, Ands: gates{{0, 2}}},
		"negative literal":      {Inputs: 2, Ands: gates{{4, -2}}},
		"smaller literal first": {Inputs: 2, Ands: gates{{2, 4}}},
		"same variable":         {Inputs: 2, Ands: gates{{3, 2}}},
		"own variable":          {Inputs: 2, Ands: gates{{6, 2}}},
		"later variable":        {Inputs: 2, Ands: gates{{8, 2}, {4, 2}}},
		"far variable":          {Inputs: 2, Ands: gates{{math.MaxInt, 2}}},
		"equal gates":           {Inputs: 2, Ands: gates{{4, 2}, {5, 3}, {4, 2}}},
		"too many gates":        chain(api.MaxVars + 1),
	}
}

func TestAllOrdinary(t *testing.T) {
	g := api.Graph{Inputs: 2, Ands: gates{{4, 2}, {5, 3}, {9, 7}}}
	for bits, want := range [][]bool{
		{false, false, false, false, true, false},
		{false, true, false, false, false, true},
		{false, false, true, false, false, true},
		{false, true, true, true, false, false},
	} {
		if got := eval.All(g, bools(2, bits)); !slices.Equal(got, want) {
			t.Errorf("B1: %v: %v", bools(2, bits), got)
		}
	}
}

func TestAllWithoutInputs(t *testing.T) {
	for _, in := range [][]bool{nil, {}} {
		if got := eval.All(api.Graph{}, in); !slices.Equal(got, []bool{false}) {
			t.Errorf("B1: %v", got)
		}
		if eval.Eval(api.Graph{}, 0, in) || !eval.Eval(api.Graph{}, 1, in) || eval.Eval(api.Graph{}, 2, in) || eval.Eval(api.Graph{}, 3, in) {
			t.Error("B1: constants")
		}
	}
}

func TestAllRefusesNumbersOfValues(t *testing.T) {
	g := api.Graph{Inputs: 2, Ands: gates{{4, 2}}}
	for _, in := range [][]bool{nil, {true}, {true, true, true}, {true, true, true, true}} {
		if got := eval.All(g, in); len(got) != 0 {
			t.Errorf("B1: %v: %v", in, got)
		}
		for _, l := range []int{0, 1, 2, 4, 6, 7} {
			if eval.Eval(g, l, in) {
				t.Errorf("B1: Eval of %d for %v", l, in)
			}
		}
	}
	if got := eval.All(api.Graph{}, []bool{true}); len(got) != 0 {
		t.Errorf("B1: a value, but no input: %v", got)
	}
}

func TestInvalidGraphs(t *testing.T) {
	for name, g := range invalid() {
		n := max(g.Inputs, 0)
		for _, n := range []int{0, n, n + 1} {
			in, open := make([]bool, n), make([]int, n)
			for i := range in {
				in[i], open[i] = true, api.Yes
			}
			if got := eval.All(g, in); len(got) != 0 {
				t.Errorf("B1: %s: %v", name, got)
			}
			for _, l := range []int{math.MinInt, -2, -1, 0, 1, 2, 3, 4, 5, 6, 7, math.MaxInt} {
				if eval.Eval(g, l, in) {
					t.Errorf("B1: %s: Eval of %d", name, l)
				}
				if got := eval.Three(g, l, open); got != api.Either {
					t.Errorf("B2: %s: Three of %d: %d", name, l, got)
				}
			}
		}
	}
	huge := api.Graph{Inputs: math.MaxInt, Ands: gates{{4, 2}}}
	if len(eval.All(huge, nil)) != 0 || eval.Eval(huge, 1, nil) || eval.Three(huge, 1, nil) != api.Either {
		t.Error("B1, B2: the greatest Inputs")
	}
}

func TestNoLiterals(t *testing.T) {
	g := api.Graph{Inputs: 2, Ands: gates{{4, 2}}}
	for _, l := range []int{math.MinInt, math.MinInt + 1, -8, -7, -2, -1, 8, 9, 10, 1 << 40, math.MaxInt - 1, math.MaxInt} {
		for bits := range 4 {
			if eval.Eval(g, l, bools(2, bits)) {
				t.Errorf("B1: Eval of %d", l)
			}
		}
		for _, in := range threes(2) {
			if got := eval.Three(g, l, in); got != api.Either {
				t.Errorf("B2: Three of %d: %d", l, got)
			}
		}
	}
	if !eval.Eval(g, 7, bools(2, 1)) || eval.Three(g, 7, []int{api.Yes, api.No}) != api.Yes {
		t.Error("B1, B2: the greatest literal is one")
	}
}

func TestAtTheLimit(t *testing.T) {
	g := chain(api.MaxVars)
	last := 2 * (api.MaxVars - 1)
	// With input 1 true each gate is the negation of the one before it.
	for _, second := range []bool{false, true} {
		in, open := []bool{true, second}, []int{api.Yes, api.No}
		if second {
			open[1] = api.Yes
		}
		all := eval.All(g, in)
		if len(all) != api.MaxVars {
			t.Fatalf("B1: %d values", len(all))
		}
		for v := 3; v < len(all); v++ {
			if want := second == (v%2 == 1); all[v] != want {
				t.Fatalf("B1: variable %d: %v", v, all[v])
			}
		}
		if eval.Eval(g, last, in) != second || eval.Eval(g, last+1, in) == second {
			t.Errorf("B1: the last variable for %v", in)
		}
		if eval.Three(g, last, open) != open[1] || eval.Three(g, last+1, open) != 1-open[1] {
			t.Errorf("B2: the last variable for %v", open)
		}
	}
	if got := eval.Three(g, last, []int{api.Yes, api.Either}); got != api.Either {
		t.Errorf("B2: the last variable: %d", got)
	}
	if got := eval.Three(g, last, []int{api.No, api.Either}); got != api.No {
		t.Errorf("B2: the last variable: %d", got)
	}
}

func TestManyInputs(t *testing.T) {
	g := api.Graph{Inputs: api.MaxVars - 1}
	in, open := make([]bool, g.Inputs), make([]int, g.Inputs)
	for i := range in {
		in[i], open[i] = i%3 == 0, i%3
	}
	if got := eval.All(g, in); !slices.Equal(got, append([]bool{false}, in...)) {
		t.Error("B1: inputs are not in order")
	}
	for i := range in {
		if eval.Eval(g, 2*i+2, in) != in[i] || eval.Three(g, 2*i+2, open) != open[i] {
			t.Errorf("B1, B2: input %d", i+1)
		}
	}
}

func TestThreeExample(t *testing.T) {
	g := api.Graph{Inputs: 2, Ands: gates{{4, 2}}}
	if got := eval.Three(g, 6, []int{api.No, api.Either}); got != api.No {
		t.Errorf("B2: %d", got)
	}
}

func TestThreeGates(t *testing.T) {
	const no, yes, either = api.No, api.Yes, api.Either
	g := api.Graph{Inputs: 2, Ands: gates{{4, 2}, {4, 3}, {5, 2}, {5, 3}}}
	for _, x := range []struct{ a, b, both, notA, notB, neither int }{
		{no, no, no, no, no, yes},
		{no, yes, no, yes, no, no},
		{no, either, no, either, no, either},
		{yes, no, no, no, yes, no},
		{yes, yes, yes, no, no, no},
		{yes, either, either, no, either, no},
		{either, no, no, no, either, either},
		{either, yes, either, either, no, no},
		{either, either, either, either, either, either},
	} {
		for i, want := range []int{x.both, x.notA, x.notB, x.neither} {
			if got := eval.Three(g, 6+2*i, []int{x.a, x.b}); got != want {
				t.Errorf("B2: gate %v for %d, %d: %d", g.Ands[i], x.a, x.b, got)
			}
		}
	}
}

func TestThreeNegations(t *testing.T) {
	g := api.Graph{Inputs: 1}
	for v, want := range map[int]int{api.No: api.Yes, api.Yes: api.No, api.Either: api.Either} {
		if eval.Three(g, 2, []int{v}) != v || eval.Three(g, 3, []int{v}) != want {
			t.Errorf("B2: input %d", v)
		}
		if eval.Three(g, 0, []int{v}) != api.No || eval.Three(g, 1, []int{v}) != api.Yes {
			t.Errorf("B2: constants, for input %d", v)
		}
	}
}

// TestThreeOtherNumbers: an input is Either if its number is neither No nor Yes.
func TestThreeOtherNumbers(t *testing.T) {
	g := api.Graph{Inputs: 2, Ands: gates{{4, 2}, {5, 3}}}
	for _, v := range []int{math.MinInt, -2, -1, 2, 3, 4, 255, 256, 257, 1 << 32, 1<<32 + 1, math.MaxInt} {
		for _, other := range []int{api.No, api.Yes, api.Either, v} {
			for l := range 2 * count(g) {
				in := []int{v, other}
				if got := eval.Three(g, l, in); got != plainThree(g, l, in) {
					t.Errorf("B2: %d for %v: %d", l, in, got)
				}
			}
		}
		if eval.Three(g, 2, []int{v, api.Yes}) != api.Either || eval.Three(g, 6, []int{v, api.Yes}) != api.Either || eval.Three(g, 6, []int{v, api.No}) != api.No {
			t.Errorf("B2: input %d", v)
		}
	}
}

func TestThreeRefusesNumbersOfValues(t *testing.T) {
	g := api.Graph{Inputs: 2, Ands: gates{{4, 2}}}
	for _, in := range [][]int{nil, {api.Yes}, {api.Yes, api.Yes, api.Yes}, {api.No, api.No, api.No}} {
		for l := range 2 * count(g) {
			if got := eval.Three(g, l, in); got != api.Either {
				t.Errorf("B2: %d for %v: %d", l, in, got)
			}
		}
	}
	for _, in := range [][]int{nil, {}} {
		if eval.Three(api.Graph{}, 0, in) != api.No || eval.Three(api.Graph{}, 1, in) != api.Yes || eval.Three(api.Graph{}, 2, in) != api.Either {
			t.Error("B2: a graph without inputs")
		}
	}
}

// TestThreeKeepsToTheRules: no gate has a literal and its negation, and one that never is true through others stays Either.
func TestThreeKeepsToTheRules(t *testing.T) {
	g := api.Graph{Inputs: 2, Ands: gates{{4, 2}, {6, 3}}}
	if got := eval.Three(g, 8, []int{api.Either, api.Yes}); got != api.Either {
		t.Errorf("B2: %d", got)
	}
}

func TestRandomGraphs(t *testing.T) {
	r := rand.New(rand.NewSource(2))
	for range 300 {
		g := randomGraph(r, r.Intn(5), 12)
		for bits := range 1 << g.Inputs {
			in := bools(g.Inputs, bits)
			all := eval.All(g, in)
			if len(all) != count(g) {
				t.Fatalf("B1: %d values for %v", len(all), g)
			}
			for l := range 2 * count(g) {
				want := plainEval(g, l, in)
				if eval.Eval(g, l, in) != want || all[l/2] != (want != (l%2 == 1)) {
					t.Fatalf("B1: %v, %d, %v", g, l, in)
				}
			}
		}
		for _, in := range threes(g.Inputs) {
			for l := range 2 * count(g) {
				if got := eval.Three(g, l, in); got != plainThree(g, l, in) {
					t.Fatalf("B2: %v, %d, %v: %d", g, l, in, got)
				}
			}
		}
	}
}

// TestThreeIsSound: what Three says holds for all values of the inputs that are Either, and it says all if there are none.
func TestThreeIsSound(t *testing.T) {
	r := rand.New(rand.NewSource(3))
	for range 60 {
		g := randomGraph(r, r.Intn(5), 10)
		for _, open := range threes(g.Inputs) {
			for l := range 2 * count(g) {
				said := eval.Three(g, l, open)
				if said == api.Either && !slices.Contains(open, api.Either) {
					t.Fatalf("B3: %v, %d, %v: Either", g, l, open)
				}
				for bits := range 1 << g.Inputs {
					in := bools(g.Inputs, bits)
					if said != api.Either && fitting(in, open) && eval.Eval(g, l, in) != (said == api.Yes) {
						t.Fatalf("B3: %v, %d, %v: %d, but not for %v", g, l, open, said, in)
					}
				}
			}
		}
	}
}

// TestNamesOfLayerOne: And, Or and Ite compute what they are called.
func TestNamesOfLayerOne(t *testing.T) {
	r := rand.New(rand.NewSource(4))
	for range 400 {
		g := randomGraph(r, 3, 6)
		c, a, b := r.Intn(2*count(g)), r.Intn(2*count(g)), r.Intn(2*count(g))
		withAnd, and, err1 := graph.And(g, a, b)
		withOr, or, err2 := graph.Or(g, a, b)
		withIte, ite, err3 := graph.Ite(g, c, a, b)
		if err1 != api.OK || err2 != api.OK || err3 != api.OK {
			t.Fatalf("B3: %d, %d, %d", err1, err2, err3)
		}
		for bits := range 8 {
			in := bools(3, bits)
			x, y := eval.Eval(g, a, in), eval.Eval(g, b, in)
			chosen := y
			if eval.Eval(g, c, in) {
				chosen = x
			}
			if eval.Eval(withAnd, and, in) != (x && y) || eval.Eval(withOr, or, in) != (x || y) || eval.Eval(withIte, ite, in) != chosen {
				t.Fatalf("B3: %v, %d, %d, %d, %v", g, c, a, b, in)
			}
			open := []int{bits & 1, bits >> 1 & 1, bits >> 2}
			if (eval.Three(withIte, ite, open) == api.Yes) != chosen {
				t.Fatalf("B3: %v, %d, %d, %d, %v", g, c, a, b, open)
			}
		}
	}
}

// TestArguments: neither arguments nor the memory behind them is written to, and results can be written to.
func TestArguments(t *testing.T) {
	memory := gates{{4, 2}, {6, 3}, {-7, -8}, {-7, -8}}
	values := []bool{true, false, true, true, true, true, true, true}
	numbers := []int{7, -1, 9, 9, 9, 9, 9, 9}
	memoryBefore, valuesBefore, numbersBefore := slices.Clone(memory), slices.Clone(values), slices.Clone(numbers)
	g := api.Graph{Inputs: 2, Ands: memory[:2]}
	all := eval.All(g, values[:2])
	again := eval.All(g, values[:2])
	eval.Eval(g, 9, values[:2])
	eval.Three(g, 9, numbers[:2])
	eval.Three(g, 9, numbers[:1])
	for i := range all {
		all[i] = !all[i]
	}
	if !slices.Equal(memory, memoryBefore) || !slices.Equal(values, valuesBefore) || !slices.Equal(numbers, numbersBefore) {
		t.Errorf("R3: %v, %v, %v", memory, values, numbers)
	}
	if !slices.Equal(again, []bool{false, true, false, false, false}) {
		t.Errorf("R3: two results share memory: %v", again)
	}
}

// TestAgain: the result depends on the arguments only, not on earlier calls.
func TestAgain(t *testing.T) {
	g := api.Graph{Inputs: 2, Ands: gates{{4, 2}}}
	for range 2 {
		if got := eval.All(g, []bool{true, true}); !slices.Equal(got, []bool{false, true, true, true}) {
			t.Errorf("R4: %v", got)
		}
		if eval.Eval(g, 6, []bool{true, false}) || eval.Three(g, 6, []int{api.Yes, 5}) != api.Either || eval.Three(g, 6, []int{api.Yes, api.Yes}) != api.Yes {
			t.Error("R4")
		}
		eval.All(api.Graph{Inputs: -1}, nil)
		eval.Three(api.Graph{Inputs: 1, Ands: gates{{4, 2}}}, 2, []int{api.No})
	}
}
