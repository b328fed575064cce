package cone_test

import (
	"math"
	"math/rand"
	"slices"
	"testing"

	"parterre/api"
	"parterre/cone"
	"parterre/eval"
	"parterre/graph"
)

type gates = [][2]int

func count(g api.Graph) int { return 1 + g.Inputs + len(g.Ands) }

// plainCone is the chapter's word read as it stands: the variables in the cone of a literal of a valid graph.
func plainCone(g api.Graph, l int) map[int]bool {
	in := map[int]bool{}
	var enter func(l int)
	enter = func(l int) {
		if in[l/2] {
			return
		}
		in[l/2] = true
		if i := l/2 - 1 - g.Inputs; i >= 0 {
			enter(g.Ands[i][0])
			enter(g.Ands[i][1])
		}
	}
	enter(l)
	return in
}

func plainSupport(g api.Graph, l int) []int {
	var inputs []int
	for v := range plainCone(g, l) {
		if 1 <= v && v <= g.Inputs {
			inputs = append(inputs, v)
		}
	}
	slices.Sort(inputs)
	return inputs
}

func plainGates(g api.Graph, l int) int {
	n := 0
	for v := range plainCone(g, l) {
		if v > g.Inputs {
			n++
		}
	}
	return n
}

// plainCopy is promise C2 read word by word.
func plainCopy(to, from api.Graph, l int, by []int) (api.Graph, int, api.Errno) {
	if !graph.Right(to) || !graph.Right(from) || !graph.Lit(from, l) || len(by) != from.Inputs {
		return api.Graph{}, 0, api.ErrArg
	}
	become := map[int]int{0: 0, 1: 1}
	for i, b := range by {
		if !graph.Lit(to, b) {
			return api.Graph{}, 0, api.ErrArg
		}
		become[2*i+2], become[2*i+3] = b, b^1
	}
	in := plainCone(from, l)
	for i, gate := range from.Ands {
		v := 1 + from.Inputs + i
		if !in[v] {
			continue
		}
		longer, and, err := graph.And(to, become[gate[0]], become[gate[1]])
		if err != api.OK {
			return api.Graph{}, 0, err
		}
		to, become[2*v], become[2*v+1] = longer, and, and^1
	}
	return to, become[l], api.OK
}

// plainFix is promise C3 read word by word, for graphs with few inputs.
func plainFix(g api.Graph, l, input int, value bool) (api.Graph, int, api.Errno) {
	if input < 1 || input > g.Inputs {
		return api.Graph{}, 0, api.ErrArg
	}
	var by []int
	for i := 1; i <= g.Inputs; i++ {
		switch {
		case i != input:
			by = append(by, 2*i)
		case value:
			by = append(by, 1)
		default:
			by = append(by, 0)
		}
	}
	return plainCopy(g, g, l, by)
}

// answer is what Copy and Fix return.
type answer struct {
	g   api.Graph
	l   int
	err api.Errno
}

func of(g api.Graph, l int, err api.Errno) answer { return answer{g, l, err} }

func (x answer) equal(y answer) bool {
	return x.l == y.l && x.err == y.err && x.g.Inputs == y.g.Inputs && slices.Equal(x.g.Ands, y.g.Ands)
}

// fails says that a call returned an error and nothing else.
func (x answer) fails(err api.Errno) bool {
	return x.equal(answer{err: err})
}

// randomGraph adds a few gates to a graph with inputs.
func randomGraph(r *rand.Rand, inputs, most int) api.Graph {
	g := api.Graph{Inputs: inputs}
	for range r.Intn(most + 1) {
		g, _, _ = graph.And(g, r.Intn(2*count(g)), r.Intn(2*count(g)))
	}
	return g
}

// randomLiterals returns n literals of g.
func randomLiterals(r *rand.Rand, g api.Graph, n int) []int {
	by := make([]int, n)
	for i := range by {
		by[i] = r.Intn(2 * count(g))
	}
	return by
}

// chain returns a valid graph with that many variables: each gate is the last variable, negated, and input 1.
func chain(vars int) api.Graph {
	g := api.Graph{Inputs: 2, Ands: gates{{4, 2}}}
	for count(g) < vars {
		g.Ands = append(g.Ands, [2]int{2*count(g) - 1, 2})
	}
	return g
}

// bools returns n values: bit i of bits is the value of input i + 1.
func bools(n, bits int) []bool {
	in := make([]bool, n)
	for i := range in {
		in[i] = bits>>i&1 == 1
	}
	return in
}

// invalid returns graphs that are not valid, by what is wrong with them.
func invalid() map[string]api.Graph {
	return map[string]api.Graph{
		"Inputs below 0":           {Inputs: -1},
		"Inputs below 0 and gates": {Inputs: -1, Ands: gates{{4, 2}, {4, 2}}},
		"smallest Inputs":          {Inputs: math.MinInt},
		"greatest Inputs":          {Inputs: math.MaxInt},
		"greatest Inputs, a gate":  {Inputs: math.MaxInt, Ands: gates{{4, 2}}},
		"many Inputs":              {Inputs: 1 << 40},
		"Inputs above MaxVars":     {Inputs: api.MaxVars + 1},
		"MaxVars inputs":           {Inputs: api.MaxVars},
		"constant literal":         {Inputs: 2, Ands: gates{{4, 1}}},
		"constant first":           {Inputs: 2, Ands: gates{{0, 2}}},
		"negative literal":         {Inputs: 2, Ands: gates{{4, -2}}},
		"smaller literal first":    {Inputs: 2, Ands: gates{{2, 4}}},
		"same variable":            {Inputs: 2, Ands: gates{{3, 2}}},
		"own variable":             {Inputs: 2, Ands: gates{{6, 2}}},
		"later variable":           {Inputs: 2, Ands: gates{{8, 2}, {4, 2}}},
		"far variable":             {Inputs: 2, Ands: gates{{math.MaxInt, 2}}},
		"equal gates":              {Inputs: 2, Ands: gates{{4, 2}, {5, 3}, {4, 2}}},
		"too many gates":           chain(api.MaxVars + 1),
	}
}

// sample has gates that stand on others, one that nothing stands on, and an input in no cone but its own.
func sample() api.Graph {
	return api.Graph{Inputs: 4, Ands: gates{{4, 2}, {6, 5}, {13, 11}, {12, 10}, {14, 3}}}
}

func TestSupportAndGates(t *testing.T) {
	g := sample()
	for _, x := range []struct {
		name    string
		l       int
		support []int
		gates   int
	}{
		{"false", 0, nil, 0},
		{"true", 1, nil, 0},
		{"input 1", 2, []int{1}, 0},
		{"input 1 negated", 3, []int{1}, 0},
		{"input 3", 6, []int{3}, 0},
		{"an input that no gate has", 9, []int{4}, 0},
		{"first gate", 10, []int{1, 2}, 1},
		{"first gate negated", 11, []int{1, 2}, 1},
		{"second gate", 12, []int{2, 3}, 1},
		{"gate of gates", 14, []int{1, 2, 3}, 3},
		{"gate of the same gates", 17, []int{1, 2, 3}, 3},
		{"last gate", 18, []int{1, 2, 3}, 4},
		{"last gate negated", 19, []int{1, 2, 3}, 4},
	} {
		if got := cone.Support(g, x.l); !slices.Equal(got, x.support) {
			t.Errorf("C1: Support of %s: %v", x.name, got)
		}
		if got := cone.Gates(g, x.l); got != x.gates {
			t.Errorf("C1: Gates of %s: %d", x.name, got)
		}
	}
}

func TestNoLiterals(t *testing.T) {
	g := sample()
	for _, l := range []int{math.MinInt, math.MinInt + 1, -20, -3, -2, -1, 20, 21, 22, 4000, math.MaxInt - 1, math.MaxInt} {
		if got := cone.Support(g, l); len(got) != 0 {
			t.Errorf("C1: Support of %d: %v", l, got)
		}
		if got := cone.Gates(g, l); got != 0 {
			t.Errorf("C1: Gates of %d: %d", l, got)
		}
		if got := of(cone.Copy(api.Graph{Inputs: 30}, g, l, []int{2, 4, 6, 8})); !got.fails(api.ErrArg) {
			t.Errorf("C2: Copy of %d: %v", l, got)
		}
		if got := of(cone.Fix(g, l, 1, true)); !got.fails(api.ErrArg) {
			t.Errorf("C3: Fix of %d: %v", l, got)
		}
	}
}

func TestInvalidGraphs(t *testing.T) {
	good := api.Graph{Inputs: 2, Ands: gates{{4, 2}}}
	for name, g := range invalid() {
		for _, l := range []int{math.MinInt, -1, 0, 1, 2, 3, 5, 6, 7, 10, math.MaxInt} {
			if got := cone.Support(g, l); len(got) != 0 {
				t.Errorf("C1: %s: Support of %d: %v", name, l, got)
			}
			if got := cone.Gates(g, l); got != 0 {
				t.Errorf("C1: %s: Gates of %d: %d", name, l, got)
			}
			for _, by := range [][]int{nil, {2, 4}, make([]int, min(max(g.Inputs, 0), 3000))} {
				if got := of(cone.Copy(good, g, l, by)); !got.fails(api.ErrArg) {
					t.Errorf("C2: %s: Copy of %d: %v", name, l, got)
				}
				if got := of(cone.Copy(g, good, l, by)); !got.fails(api.ErrArg) {
					t.Errorf("C2: Copy of %d into %s: %v", l, name, got)
				}
			}
			for _, input := range []int{math.MinInt, -1, 0, 1, 2, 3, g.Inputs, math.MaxInt} {
				if got := of(cone.Fix(g, l, input, true)); !got.fails(api.ErrArg) {
					t.Errorf("C3: %s: Fix of %d for %d: %v", name, l, input, got)
				}
			}
		}
		// Not even a copy without gates, or of a constant, gets by.
		if got := of(cone.Copy(g, api.Graph{}, 0, nil)); !got.fails(api.ErrArg) {
			t.Errorf("C2: Copy of false into %s: %v", name, got)
		}
	}
}

func TestCopyOrdinary(t *testing.T) {
	from := sample()
	to := api.Graph{Inputs: 3, Ands: gates{{4, 2}, {7, 5}}}
	for _, x := range []struct {
		name  string
		l     int
		by    []int
		want  int
		added gates
	}{
		{"false", 0, []int{2, 4, 6, 8}, 0, nil},
		{"true", 1, []int{2, 4, 6, 8}, 1, nil},
		{"first input", 2, []int{5, 2, 3, 4}, 5, nil},
		{"second input, negated", 5, []int{5, 11, 3, 4}, 10, nil},
		{"last input", 8, []int{5, 11, 3, 9}, 9, nil},
		{"input that is true", 6, []int{0, 0, 1, 0}, 1, nil},
		{"input that is true, negated", 7, []int{0, 0, 1, 0}, 0, nil},
		{"gate that is there", 10, []int{2, 4, 0, 0}, 8, nil},
		{"gate that is there, turned round", 10, []int{4, 2, 0, 0}, 8, nil},
		{"gate that is there, negated", 11, []int{4, 2, 0, 0}, 9, nil},
		{"gate of negations that is there", 10, []int{5, 7, 0, 0}, 10, nil},
		{"new gate", 10, []int{6, 2, 0, 0}, 12, gates{{6, 2}}},
		{"new gate, negated", 11, []int{6, 2, 0, 0}, 13, gates{{6, 2}}},
		{"gate of gates", 14, []int{2, 4, 7, 0}, 12, gates{{11, 9}}},
		{"new gate and a gate that is there", 14, []int{6, 3, 4, 0}, 14, gates{{6, 3}, {13, 9}}},
		{"gates in order", 14, []int{6, 3, 5, 0}, 16, gates{{6, 3}, {5, 2}, {15, 13}}},
		{"without the gate that is not in the cone", 18, []int{6, 3, 5, 0}, 18, gates{{6, 3}, {5, 2}, {15, 13}, {16, 7}}},
		{"gate of a literal and its negation", 10, []int{7, 6, 0, 0}, 0, nil},
		{"gate of a literal twice", 10, []int{7, 7, 0, 0}, 7, nil},
		{"gate of a constant", 10, []int{1, 11, 0, 0}, 11, nil},
	} {
		want := answer{api.Graph{Inputs: 3, Ands: slices.Concat(to.Ands, x.added)}, x.want, api.OK}
		if got := of(cone.Copy(to, from, x.l, x.by)); !got.equal(want) {
			t.Errorf("C2: %s: %v", x.name, got)
		}
	}
}

func TestCopyRefusesLists(t *testing.T) {
	from := sample()
	to := api.Graph{Inputs: 2, Ands: gates{{4, 2}}}
	for _, by := range [][]int{nil, {}, {2}, {2, 4, 6}, {2, 4, 6, 0, 0}, make([]int, 10), make([]int, 3000)} {
		for _, l := range []int{0, 1, 2, 10, 18} {
			if got := of(cone.Copy(to, from, l, by)); !got.fails(api.ErrArg) {
				t.Errorf("C2: %d elements: %v", len(by), got)
			}
		}
	}
	// The gates that copying adds make no number a literal, and an input outside the cone makes none right.
	for _, bad := range []int{math.MinInt, -2, -1, 8, 9, 10, 18, math.MaxInt} {
		for place := range from.Inputs {
			for _, l := range []int{0, 1, 2, 8, 10, 14, 18} {
				by := []int{2, 5, 4, 6}
				by[place] = bad
				if got := of(cone.Copy(to, from, l, by)); !got.fails(api.ErrArg) {
					t.Errorf("C2: %v: %v", by, got)
				}
			}
		}
	}
	if got := of(cone.Copy(to, from, 2, []int{7, 0, 1, 6})); !got.equal(answer{to, 7, api.OK}) {
		t.Errorf("C2: the greatest literal and the constants: %v", got)
	}
	for _, by := range [][]int{nil, {}} {
		if got := of(cone.Copy(to, api.Graph{}, 1, by)); !got.equal(answer{to, 1, api.OK}) {
			t.Errorf("C2: a graph without inputs: %v", got)
		}
	}
	if got := of(cone.Copy(to, api.Graph{}, 1, []int{2})); !got.fails(api.ErrArg) {
		t.Errorf("C2: an element, but no input: %v", got)
	}
}

func TestFixExample(t *testing.T) {
	g := api.Graph{Inputs: 2, Ands: gates{{4, 2}}}
	if got := of(cone.Fix(g, 6, 1, true)); !got.equal(answer{g, 4, api.OK}) {
		t.Errorf("C3: %v", got)
	}
}

func TestFixOrdinary(t *testing.T) {
	g := sample()
	for _, x := range []struct {
		name     string
		l, input int
		value    bool
		want     int
		added    gates
	}{
		{"false", 0, 1, true, 0, nil},
		{"true", 1, 1, false, 1, nil},
		{"the input for true", 4, 2, true, 1, nil},
		{"the input for false", 4, 2, false, 0, nil},
		{"the input, negated, for true", 5, 2, true, 0, nil},
		{"the input, negated, for false", 5, 2, false, 1, nil},
		{"another input", 4, 1, true, 4, nil},
		{"another input, negated", 9, 1, false, 9, nil},
		{"gate for true", 10, 2, true, 2, nil},
		{"gate for false", 10, 2, false, 0, nil},
		{"gate, negated, for false", 11, 2, false, 1, nil},
		{"gate with a negated literal", 12, 2, false, 6, nil},
		{"gate without the input", 10, 3, false, 10, nil},
		{"gates without the input", 18, 4, true, 18, nil},
		{"first input of the graph", 14, 1, false, 13, nil},
		{"gate of gates", 14, 3, true, 20, gates{{11, 4}}},
		{"gate of gates above these", 18, 3, true, 22, gates{{11, 4}, {20, 3}}},
		{"above a gate that becomes a literal", 18, 2, true, 3, nil},
		{"above a gate that becomes a literal, negated", 19, 2, true, 2, nil},
	} {
		want := answer{api.Graph{Inputs: 4, Ands: slices.Concat(g.Ands, x.added)}, x.want, api.OK}
		if got := of(cone.Fix(g, x.l, x.input, x.value)); !got.equal(want) {
			t.Errorf("C3: %s: %v", x.name, got)
		}
	}
}

func TestFixRefusesInputs(t *testing.T) {
	for _, g := range []api.Graph{{}, {Inputs: 1}, sample()} {
		for _, input := range []int{math.MinInt, -1, 0, g.Inputs + 1, g.Inputs + 2, math.MaxInt} {
			for l := range 2 * count(g) {
				for _, value := range []bool{false, true} {
					if got := of(cone.Fix(g, l, input, value)); !got.fails(api.ErrArg) {
						t.Errorf("C3: input %d of %d: %v", input, g.Inputs, got)
					}
				}
			}
		}
	}
}

// TestConeOfTheGreatestGraph: a cone that is as deep as can be.
func TestConeOfTheGreatestGraph(t *testing.T) {
	g := chain(api.MaxVars)
	last := 2 * (api.MaxVars - 1)
	if cone.Gates(g, last) != api.MaxVars-3 || cone.Gates(g, last+1) != api.MaxVars-3 || cone.Gates(g, last-100) != api.MaxVars-53 {
		t.Error("C1: Gates")
	}
	if !slices.Equal(cone.Support(g, last+1), []int{1, 2}) || len(cone.Support(g, last+2)) != 0 || cone.Gates(g, last+2) != 0 {
		t.Error("C1: Support")
	}
	wide := api.Graph{Inputs: api.MaxVars - 1}
	if !slices.Equal(cone.Support(wide, last), []int{api.MaxVars - 1}) || cone.Gates(wide, last) != 0 {
		t.Error("C1: MaxVars - 1 inputs")
	}
}

// TestFullGraphs: a graph with MaxVars variables has the gates that it has, and takes no other one.
func TestFullGraphs(t *testing.T) {
	g := chain(api.MaxVars)
	last := 2 * (api.MaxVars - 1)
	if got := of(cone.Copy(g, g, last, []int{2, 4})); !got.equal(answer{g, last, api.OK}) {
		t.Errorf("C2: a graph copied into itself: %d, %d", got.l, got.err)
	}
	if got := of(cone.Copy(g, g, last, []int{2, 5})); !got.fails(api.ErrLong) {
		t.Errorf("C2: no room: %d, %d", got.l, got.err)
	}
	if got := of(cone.Copy(g, g, 2, []int{last, 5})); !got.equal(answer{g, last, api.OK}) {
		t.Errorf("C2: no gate in the cone: %d, %d", got.l, got.err)
	}
	if got := of(cone.Copy(api.Graph{Inputs: 2}, g, last, []int{2, 4})); !got.equal(answer{g, last, api.OK}) {
		t.Errorf("C2: a graph copied into none: %d, %d", got.l, got.err)
	}
	if got := of(cone.Copy(api.Graph{Inputs: 3}, g, last, []int{2, 4, 6}[:2])); !got.fails(api.ErrLong) {
		t.Errorf("C2: one variable too many: %d, %d", got.l, got.err)
	}
	if got := of(cone.Copy(api.Graph{Inputs: 3}, g, last-2, []int{2, 4})); got.err != api.OK || count(got.g) != api.MaxVars || got.l != last {
		t.Errorf("C2: just room: %d, %d", got.l, got.err)
	}
	// The wrong argument comes first: no gate is tried ahead of it.
	if got := of(cone.Copy(g, g, last, []int{5, last + 2})); !got.fails(api.ErrArg) {
		t.Errorf("C2: no room and no literal: %d, %d", got.l, got.err)
	}
	for value, want := range map[bool]int{false: 0, true: 4} {
		if got := of(cone.Fix(g, 6, 1, value)); !got.equal(answer{g, want, api.OK}) {
			t.Errorf("C3: %v: %d, %d", value, got.l, got.err)
		}
	}
	// With input 1 true each gate is the negation of the one before it; with input 2 true they are input 1 and false in turn.
	if got := of(cone.Fix(g, last, 1, true)); !got.equal(answer{g, 4, api.OK}) {
		t.Errorf("C3: the last gate for input 1: %d, %d", got.l, got.err)
	}
	if got := of(cone.Fix(g, last, 2, true)); !got.equal(answer{g, 2, api.OK}) {
		t.Errorf("C3: the last gate for input 2: %d, %d", got.l, got.err)
	}
	g = api.Graph{Inputs: 3, Ands: gates{{4, 2}, {8, 6}, {11, 7}}}
	for count(g) < api.MaxVars {
		g.Ands = append(g.Ands, [2]int{2*count(g) - 1, 6})
	}
	if got := of(cone.Fix(g, 10, 1, true)); !got.fails(api.ErrLong) {
		t.Errorf("C3: no room: %d, %d", got.l, got.err)
	}
}

func TestRandomCones(t *testing.T) {
	r := rand.New(rand.NewSource(5))
	for range 500 {
		g := randomGraph(r, r.Intn(6), 20)
		for l := range 2 * count(g) {
			if got := cone.Support(g, l); !slices.Equal(got, plainSupport(g, l)) {
				t.Fatalf("C1: %v, %d: %v", g, l, got)
			}
			if got := cone.Gates(g, l); got != plainGates(g, l) {
				t.Fatalf("C1: %v, %d: %d", g, l, got)
			}
		}
	}
}

func TestRandomCopies(t *testing.T) {
	r := rand.New(rand.NewSource(6))
	for range 500 {
		from, to := randomGraph(r, r.Intn(5), 15), randomGraph(r, r.Intn(4), 6)
		by := randomLiterals(r, to, from.Inputs)
		for l := range 2*count(from) + 2 {
			got, want := of(cone.Copy(to, from, l, by)), of(plainCopy(to, from, l, by))
			if !got.equal(want) {
				t.Fatalf("C2: %v, %v, %d, %v: %v", to, from, l, by, got)
			}
			for input := range from.Inputs + 2 {
				got, want := of(cone.Fix(from, l, input, l%3 == 0)), of(plainFix(from, l, input, l%3 == 0))
				if !got.equal(want) {
					t.Fatalf("C3: %v, %d, %d, %v: %v", from, l, input, l%3 == 0, got)
				}
			}
		}
	}
}

// TestSupportIsAllThatCounts: inputs that are not in the support of a literal don't change its value.
func TestSupportIsAllThatCounts(t *testing.T) {
	r := rand.New(rand.NewSource(7))
	for range 100 {
		g := randomGraph(r, 4, 10)
		for l := range 2 * count(g) {
			support := cone.Support(g, l)
			for bits := range 16 {
				for input := range 4 {
					if slices.Contains(support, input+1) {
						continue
					}
					if eval.Eval(g, l, bools(4, bits)) != eval.Eval(g, l, bools(4, bits^1<<input)) {
						t.Fatalf("C4: %v, %d, input %d", g, l, input+1)
					}
				}
			}
		}
	}
}

func TestCopiesMean(t *testing.T) {
	r := rand.New(rand.NewSource(8))
	for range 300 {
		from, to := randomGraph(r, r.Intn(5), 12), randomGraph(r, 3, 8)
		by := randomLiterals(r, to, from.Inputs)
		l := r.Intn(2 * count(from))
		g, copied, err := cone.Copy(to, from, l, by)
		if err != api.OK || !graph.Right(g) || !graph.Lit(g, copied) || !slices.Equal(g.Ands[:len(to.Ands)], to.Ands) {
			t.Fatalf("C4: %v, %v, %d, %v: %v, %d", to, from, l, by, g, err)
		}
		for bits := range 8 {
			in := bools(3, bits)
			var values []bool
			for _, b := range by {
				values = append(values, eval.Eval(to, b, in))
			}
			if eval.Eval(g, copied, in) != eval.Eval(from, l, values) {
				t.Fatalf("C4: %v, %v, %d, %v: %v", to, from, l, by, in)
			}
		}
	}
}

func TestFixedLiteralsMean(t *testing.T) {
	r := rand.New(rand.NewSource(9))
	for range 300 {
		g := randomGraph(r, 4, 14)
		l, input, value := r.Intn(2*count(g)), 1+r.Intn(4), r.Intn(2) == 1
		h, fixed, err := cone.Fix(g, l, input, value)
		if err != api.OK || !graph.Right(h) || slices.Contains(cone.Support(h, fixed), input) {
			t.Fatalf("C4: %v, %d, %d, %v: %v, %d, %d", g, l, input, value, h, fixed, err)
		}
		for bits := range 16 {
			in := bools(4, bits)
			with := slices.Clone(in)
			with[input-1] = value
			if eval.Eval(h, fixed, in) != eval.Eval(g, l, with) {
				t.Fatalf("C4: %v, %d, %d, %v: %v", g, l, input, value, in)
			}
		}
	}
}

// TestArguments: neither arguments nor the memory behind them is written to, and a result can be written to.
func TestArguments(t *testing.T) {
	fromMemory := gates{{4, 2}, {6, 3}, {-7, -8}, {-7, -8}}
	toMemory := gates{{5, 3}, {-7, -8}, {-7, -8}, {-7, -8}}
	list := []int{4, 3, -9, -9}
	fromBefore, toBefore, listBefore := slices.Clone(fromMemory), slices.Clone(toMemory), slices.Clone(list)
	from, to := api.Graph{Inputs: 2, Ands: fromMemory[:2]}, api.Graph{Inputs: 2, Ands: toMemory[:1]}
	for l := range 2 * count(from) {
		support := cone.Support(from, l)
		cone.Gates(from, l)
		copied, _, _ := cone.Copy(to, from, l, list[:2])
		itself, _, _ := cone.Copy(from, from, l, list[:2])
		fixed, _, _ := cone.Fix(from, l, 1, true)
		cone.Copy(to, from, l, list)
		cone.Fix(from, l, 3, true)
		for i := range support {
			support[i] = -5
		}
		for _, g := range []api.Graph{copied, itself, fixed} {
			for i := range g.Ands {
				g.Ands[i] = [2]int{-5, -5}
			}
			_ = append(g.Ands, [2]int{-6, -6})
		}
		if !slices.Equal(fromMemory, fromBefore) || !slices.Equal(toMemory, toBefore) || !slices.Equal(list, listBefore) {
			t.Fatalf("R3: %d: %v, %v, %v", l, fromMemory, toMemory, list)
		}
	}
}

// TestAgain: the result depends on the arguments only, not on earlier calls.
func TestAgain(t *testing.T) {
	g := sample()
	to := api.Graph{Inputs: 3}
	first := of(cone.Copy(to, g, 18, []int{6, 3, 5, 0}))
	fixed := of(cone.Fix(g, 18, 3, true))
	for range 2 {
		cone.Copy(to, g, 18, []int{2, 4, 6, 9})
		cone.Fix(g, 14, 2, false)
		cone.Support(api.Graph{Inputs: -1}, 2)
		if !of(cone.Copy(to, g, 18, []int{6, 3, 5, 0})).equal(first) || !of(cone.Fix(g, 18, 3, true)).equal(fixed) {
			t.Error("R4: Copy, Fix")
		}
		if !slices.Equal(cone.Support(g, 12), []int{2, 3}) || cone.Gates(g, 18) != 4 {
			t.Error("R4: Support, Gates")
		}
	}
}
