package graph_test

import (
	"math"
	"math/rand"
	"slices"
	"testing"

	"parterre/api"
	"parterre/graph"
)

type gates = [][2]int

// full returns a valid graph with MaxVars variables, whose first gate is 4, 2.
func full(t *testing.T) api.Graph {
	t.Helper()
	g := grown(t, api.Graph{Inputs: 2, Ands: gates{{4, 2}}}, api.MaxVars)
	if !graph.Right(g) {
		t.Fatal("A1: a graph with MaxVars variables is refused")
	}
	return g
}

// grown appends gates of the last variable and input 1, without the package's help.
func grown(t *testing.T, g api.Graph, vars int) api.Graph {
	t.Helper()
	g.Ands = slices.Clone(g.Ands)
	for count(g) < vars {
		g.Ands = append(g.Ands, [2]int{2*count(g) - 1, 2})
	}
	return g
}

func count(g api.Graph) int { return 1 + g.Inputs + len(g.Ands) }

// plainRight is promise A1 read word by word.
func plainRight(g api.Graph) bool {
	if g.Inputs < 0 || g.Inputs > api.MaxVars || count(g) > api.MaxVars {
		return false
	}
	for i, gate := range g.Ands {
		if gate[0] < 2 || gate[1] < 2 || gate[0]/2 <= gate[1]/2 || gate[0]/2 >= 1+g.Inputs+i {
			return false
		}
		for _, other := range g.Ands[:i] {
			if other == gate {
				return false
			}
		}
	}
	return true
}

// plainAnd is promise A2 read word by word.
func plainAnd(g api.Graph, a, b int) (api.Graph, int, api.Errno) {
	literal := func(l int) bool { return l >= 0 && l < 2*count(g) }
	if !plainRight(g) || !literal(a) || !literal(b) {
		return api.Graph{}, 0, api.ErrArg
	}
	if a == 0 || b == 0 || a^1 == b {
		return g, 0, api.OK
	}
	if a == 1 {
		return g, b, api.OK
	}
	if b == 1 || a == b {
		return g, a, api.OK
	}
	gate := [2]int{max(a, b), min(a, b)}
	if i := slices.Index(g.Ands, gate); i >= 0 {
		return g, 2 * (1 + g.Inputs + i), api.OK
	}
	if count(g) == api.MaxVars {
		return api.Graph{}, 0, api.ErrLong
	}
	return api.Graph{Inputs: g.Inputs, Ands: append(slices.Clone(g.Ands), gate)}, 2 * count(g), api.OK
}

func plainOr(g api.Graph, a, b int) (api.Graph, int, api.Errno) {
	if a < 0 || b < 0 {
		return api.Graph{}, 0, api.ErrArg
	}
	h, l, err := plainAnd(g, a^1, b^1)
	if err != api.OK {
		return api.Graph{}, 0, err
	}
	return h, l ^ 1, api.OK
}

func plainIte(g api.Graph, c, a, b int) (api.Graph, int, api.Errno) {
	if c < 0 {
		return api.Graph{}, 0, api.ErrArg
	}
	h, x, err := plainAnd(g, c, a)
	if err != api.OK {
		return api.Graph{}, 0, err
	}
	h, y, err := plainAnd(h, c^1, b)
	if err != api.OK {
		return api.Graph{}, 0, err
	}
	return plainOr(h, x, y)
}

// answer is what And, Or and Ite return.
type answer struct {
	g   api.Graph
	l   int
	err api.Errno
}

func of(g api.Graph, l int, err api.Errno) answer { return answer{g, l, err} }

func (x answer) equal(y answer) bool {
	return x.l == y.l && x.err == y.err && equal(x.g, y.g)
}

func equal(g, h api.Graph) bool {
	return g.Inputs == h.Inputs && slices.Equal(g.Ands, h.Ands)
}

// fails says that a call returned an error and nothing else.
func (x answer) fails(err api.Errno) bool {
	return x.equal(answer{err: err})
}

// values evaluates all variables; bit i of in is the value of input i + 1.
func values(g api.Graph, in int) []bool {
	v := make([]bool, 1, count(g))
	for i := range g.Inputs {
		v = append(v, in>>i&1 == 1)
	}
	for _, gate := range g.Ands {
		v = append(v, value(v, gate[0]) && value(v, gate[1]))
	}
	return v
}

func value(v []bool, l int) bool { return v[l/2] != (l%2 == 1) }

// randomGraph appends gates with random literals, some of which are there already.
func randomGraph(r *rand.Rand, inputs, most int) api.Graph {
	g := api.Graph{Inputs: inputs}
	for range r.Intn(most + 1) {
		g, _, _ = plainAnd(g, r.Intn(2*count(g)), r.Intn(2*count(g)))
	}
	return g
}

func TestRightEdges(t *testing.T) {
	for _, x := range []struct {
		name string
		g    api.Graph
		want bool
	}{
		{"nothing", api.Graph{}, true},
		{"empty list of gates", api.Graph{Ands: gates{}}, true},
		{"negative inputs", api.Graph{Inputs: -1}, false},
		{"negative inputs that a gate would make good", api.Graph{Inputs: -1, Ands: gates{{4, 2}}}, false},
		{"least int", api.Graph{Inputs: math.MinInt}, false},
		{"greatest int", api.Graph{Inputs: math.MaxInt}, false},
		{"greatest int and a gate", api.Graph{Inputs: math.MaxInt, Ands: gates{{4, 2}}}, false},
		{"1999 inputs", api.Graph{Inputs: api.MaxVars - 1}, true},
		{"2000 inputs", api.Graph{Inputs: api.MaxVars}, false},
		{"2001 inputs", api.Graph{Inputs: api.MaxVars + 1}, false},
		{"1998 inputs and a gate", api.Graph{Inputs: api.MaxVars - 2, Ands: gates{{4, 2}}}, true},
		{"1999 inputs and a gate", api.Graph{Inputs: api.MaxVars - 1, Ands: gates{{4, 2}}}, false},
		{"gate without inputs", api.Graph{Ands: gates{{2, 2}}}, false},
		{"gate", api.Graph{Inputs: 2, Ands: gates{{4, 2}}}, true},
		{"gate of negations", api.Graph{Inputs: 2, Ands: gates{{5, 3}}}, true},
		{"gate above a gate", api.Graph{Inputs: 2, Ands: gates{{4, 2}, {7, 5}}}, true},
		{"false second", api.Graph{Inputs: 2, Ands: gates{{4, 0}}}, false},
		{"true second", api.Graph{Inputs: 2, Ands: gates{{4, 1}}}, false},
		{"true first", api.Graph{Inputs: 2, Ands: gates{{1, 0}}}, false},
		{"smaller one first", api.Graph{Inputs: 2, Ands: gates{{2, 4}}}, false},
		{"equal literals", api.Graph{Inputs: 2, Ands: gates{{4, 4}}}, false},
		{"literal and its negation", api.Graph{Inputs: 2, Ands: gates{{5, 4}}}, false},
		{"negation and its literal", api.Graph{Inputs: 2, Ands: gates{{4, 5}}}, false},
		{"own variable", api.Graph{Inputs: 2, Ands: gates{{6, 2}}}, false},
		{"own negated variable", api.Graph{Inputs: 2, Ands: gates{{7, 2}}}, false},
		{"later variable", api.Graph{Inputs: 2, Ands: gates{{8, 2}, {4, 2}}}, false},
		{"second gate's own variable", api.Graph{Inputs: 2, Ands: gates{{4, 2}, {8, 2}}}, false},
		{"negative first", api.Graph{Inputs: 2, Ands: gates{{-4, 2}}}, false},
		{"negative second", api.Graph{Inputs: 2, Ands: gates{{4, -2}}}, false},
		{"least ints", api.Graph{Inputs: 2, Ands: gates{{math.MinInt, math.MinInt}}}, false},
		{"greatest int in a gate", api.Graph{Inputs: 2, Ands: gates{{math.MaxInt, 2}}}, false},
		{"equal gates", api.Graph{Inputs: 2, Ands: gates{{4, 2}, {4, 2}}}, false},
		{"equal gates apart", api.Graph{Inputs: 2, Ands: gates{{4, 2}, {4, 3}, {5, 2}, {4, 2}}}, false},
		{"all signs", api.Graph{Inputs: 2, Ands: gates{{4, 2}, {4, 3}, {5, 2}, {5, 3}}}, true},
		{"a bad gate behind a good one", api.Graph{Inputs: 2, Ands: gates{{4, 2}, {3, 4}}}, false},
	} {
		if got := graph.Right(x.g); got != x.want {
			t.Errorf("A1: %s: %v", x.name, got)
		}
	}
}

func TestRightAtTheLimit(t *testing.T) {
	g := full(t)
	if graph.Right(grown(t, g, api.MaxVars+1)) {
		t.Error("A1: MaxVars + 1 variables are taken")
	}
	for _, place := range []int{1, 1000, len(g.Ands) - 1} {
		h := api.Graph{Inputs: g.Inputs, Ands: slices.Clone(g.Ands)}
		h.Ands[place] = h.Ands[0]
		if graph.Right(h) {
			t.Errorf("A1: the first gate again at %d is taken", place)
		}
	}
	if graph.Right(api.Graph{Inputs: 2, Ands: make(gates, 1000000)}) {
		t.Error("A1: a million gates are taken")
	}
}

// TestRightOfAllSmall looks at each graph of two gates over 0 to 2 inputs, with literals from just below the least to just above the greatest.
func TestRightOfAllSmall(t *testing.T) {
	for inputs := range 3 {
		for n := range 10000 {
			a, b, c, d := n/1000-1, n/100%10-1, n/10%10-1, n%10-1
			for _, ands := range []gates{{{a, b}}, {{a, b}, {c, d}}} {
				g := api.Graph{Inputs: inputs, Ands: ands}
				if graph.Right(g) != plainRight(g) {
					t.Fatalf("A1: %v", g)
				}
			}
		}
	}
}

func TestLit(t *testing.T) {
	for _, x := range []struct {
		name string
		g    api.Graph
		vars int
	}{
		{"nothing", api.Graph{}, 1},
		{"inputs", api.Graph{Inputs: 3}, 4},
		{"gates", api.Graph{Inputs: 2, Ands: gates{{4, 2}, {6, 3}}}, 5},
		{"gates that are not valid", api.Graph{Inputs: 2, Ands: gates{{-1, 99}, {0, 0}}}, 5},
		{"1999 inputs", api.Graph{Inputs: api.MaxVars - 1}, api.MaxVars},
		{"2000 inputs", api.Graph{Inputs: api.MaxVars}, api.MaxVars + 1},
		{"2000 inputs and gates", api.Graph{Inputs: api.MaxVars, Ands: make(gates, 3000)}, api.MaxVars + 3001},
		{"2001 inputs", api.Graph{Inputs: api.MaxVars + 1}, 0},
		{"greatest int", api.Graph{Inputs: math.MaxInt}, 0},
		{"negative inputs", api.Graph{Inputs: -1}, 0},
		{"negative inputs and gates", api.Graph{Inputs: -1, Ands: gates{{4, 2}, {4, 2}}}, 0},
		{"least int", api.Graph{Inputs: math.MinInt, Ands: gates{{4, 2}}}, 0},
	} {
		for _, l := range []int{math.MinInt, -2, -1, 0, 1, 2, 2*x.vars - 2, 2*x.vars - 1, 2 * x.vars, 2*x.vars + 1, math.MaxInt} {
			if want := 0 <= l && l < 2*x.vars; graph.Lit(x.g, l) != want {
				t.Errorf("A1: %s: Lit of %d is %v", x.name, l, !want)
			}
		}
	}
}

func TestAndExample(t *testing.T) {
	want := answer{api.Graph{Inputs: 2, Ands: gates{{4, 2}}}, 6, api.OK}
	if got := of(graph.And(api.Graph{Inputs: 2}, 2, 4)); !got.equal(want) {
		t.Errorf("A2: %v", got)
	}
}

func TestAndRules(t *testing.T) {
	g := api.Graph{Inputs: 3, Ands: gates{{4, 2}, {7, 5}}}
	for _, x := range []struct {
		name          string
		a, b, want    int
		first, second int // of the gate that is added, if any
	}{
		{"false and false", 0, 0, 0, 0, 0},
		{"false and true", 0, 1, 0, 0, 0},
		{"true and false", 1, 0, 0, 0, 0},
		{"true and true", 1, 1, 1, 0, 0},
		{"false and a literal", 0, 5, 0, 0, 0},
		{"a literal and false", 5, 0, 0, 0, 0},
		{"true and a literal", 1, 5, 5, 0, 0},
		{"a literal and true", 5, 1, 5, 0, 0},
		{"true and a gate", 1, 8, 8, 0, 0},
		{"a literal and its negation", 4, 5, 0, 0, 0},
		{"a negation and its literal", 5, 4, 0, 0, 0},
		{"a gate and its negation", 10, 11, 0, 0, 0},
		{"a literal twice", 4, 4, 4, 0, 0},
		{"a negation twice", 5, 5, 5, 0, 0},
		{"a gate that is there", 4, 2, 8, 0, 0},
		{"a gate that is there, turned round", 2, 4, 8, 0, 0},
		{"a gate of negations that is there", 5, 7, 10, 0, 0},
		{"another sign", 4, 3, 12, 4, 3},
		{"another sign, turned round", 3, 4, 12, 4, 3},
		{"gates", 8, 10, 12, 10, 8},
		{"the last literal", 2, 11, 12, 11, 2},
	} {
		want := answer{g, x.want, api.OK}
		if x.first != 0 {
			want.g.Ands = append(slices.Clone(g.Ands), [2]int{x.first, x.second})
		}
		if got := of(graph.And(g, x.a, x.b)); !got.equal(want) {
			t.Errorf("A2: %s: %v", x.name, got)
		}
	}
}

func TestAndRefuses(t *testing.T) {
	g := api.Graph{Inputs: 2, Ands: gates{{4, 2}}}
	for _, l := range []int{math.MinInt, -2, -1, 8, 9, math.MaxInt - 1, math.MaxInt} {
		for _, other := range []int{0, 1, 2, 6, l, l ^ 1} {
			if got := of(graph.And(g, l, other)); !got.fails(api.ErrArg) {
				t.Errorf("A2: And of %d and %d: %v", l, other, got)
			}
			if got := of(graph.And(g, other, l)); !got.fails(api.ErrArg) {
				t.Errorf("A2: And of %d and %d: %v", other, l, got)
			}
		}
	}
	for _, bad := range []api.Graph{
		{Inputs: -1},
		{Inputs: math.MinInt},
		{Inputs: math.MaxInt},
		{Inputs: api.MaxVars},
		{Inputs: 2, Ands: gates{{2, 4}}},
		{Inputs: 2, Ands: gates{{4, 0}}},
		{Inputs: 2, Ands: gates{{6, 2}}},
		{Inputs: 2, Ands: gates{{4, 2}, {4, 2}}},
		{Inputs: 2, Ands: gates{{4, 2}, {5, 2}, {4, 2}}},
		grown(t, g, api.MaxVars+1),
	} {
		for _, x := range [][2]int{{0, 0}, {0, 1}, {1, 1}, {2, 4}} {
			if got := of(graph.And(bad, x[0], x[1])); !got.fails(api.ErrArg) {
				t.Errorf("A2: And of %v in a graph that is not valid: %v", x, got.err)
			}
		}
	}
}

func TestAndAtTheLimit(t *testing.T) {
	g := full(t)
	last := 2*api.MaxVars - 2
	for _, x := range []struct {
		name string
		a, b int
		want answer
	}{
		{"false", last, 0, answer{g, 0, api.OK}},
		{"true", last, 1, answer{g, last, api.OK}},
		{"a literal and its negation", last, last + 1, answer{g, 0, api.OK}},
		{"a literal twice", last + 1, last + 1, answer{g, last + 1, api.OK}},
		{"the first gate", 2, 4, answer{g, 6, api.OK}},
		{"the last gate", last - 1, 2, answer{g, last, api.OK}},
		{"a new gate", 3, 4, answer{err: api.ErrLong}},
		{"a new gate of the last one", last, 4, answer{err: api.ErrLong}},
		{"no literal", 4, last + 2, answer{err: api.ErrArg}},
		{"a negative number", -1, 4, answer{err: api.ErrArg}},
	} {
		if got := of(graph.And(g, x.a, x.b)); !got.equal(x.want) {
			t.Errorf("A2: %s: %d %d", x.name, got.l, got.err)
		}
	}
	g.Ands = g.Ands[:len(g.Ands)-1]
	if h, l, err := graph.And(g, 3, 4); err != api.OK || l != last || count(h) != api.MaxVars {
		t.Errorf("A2: the last gate that there is room for: %d %d", l, err)
	}
	inputs := api.Graph{Inputs: api.MaxVars - 1}
	if got := of(graph.And(inputs, 2, 4)); !got.fails(api.ErrLong) {
		t.Errorf("A2: no room beside inputs: %v", got.err)
	}
	if got := of(graph.And(inputs, 2, 3)); !got.equal(answer{inputs, 0, api.OK}) {
		t.Errorf("A2: no room needed beside inputs: %v", got.err)
	}
}

func TestAndOfAllPairs(t *testing.T) {
	r := rand.New(rand.NewSource(1))
	for range 60 {
		g := randomGraph(r, r.Intn(5), 12)
		for a := -2; a < 2*count(g)+2; a++ {
			for b := -2; b < 2*count(g)+2; b++ {
				if got, want := of(graph.And(g, a, b)), of(plainAnd(g, a, b)); !got.equal(want) {
					t.Fatalf("A2: And(%v, %d, %d): %v, not %v", g, a, b, got, want)
				}
			}
		}
	}
}

func TestOrEdges(t *testing.T) {
	g := api.Graph{Inputs: 2, Ands: gates{{4, 2}, {5, 3}}}
	for _, x := range []struct {
		a, b, want int
	}{{0, 0, 0}, {0, 1, 1}, {1, 1, 1}, {1, 4, 1}, {4, 0, 4}, {4, 5, 1}, {4, 4, 4}, {2, 4, 9}, {4, 2, 9}, {3, 5, 7}} {
		if got := of(graph.Or(g, x.a, x.b)); !got.equal(answer{g, x.want, api.OK}) {
			t.Errorf("A3: Or of %d and %d: %v", x.a, x.b, got)
		}
	}
	for _, l := range []int{math.MinInt, -2, -1, 10, 11, math.MaxInt} {
		if got := of(graph.Or(g, l, 1)); !got.fails(api.ErrArg) {
			t.Errorf("A3: Or of %d and true: %v", l, got)
		}
		if got := of(graph.Or(g, 1, l)); !got.fails(api.ErrArg) {
			t.Errorf("A3: Or of true and %d: %v", l, got)
		}
	}
	if got := of(graph.Or(api.Graph{Inputs: 2, Ands: gates{{2, 4}}}, 0, 0)); !got.fails(api.ErrArg) {
		t.Errorf("A3: Or in a graph that is not valid: %v", got)
	}
	if got := of(graph.Or(full(t), 2, 4)); !got.fails(api.ErrLong) {
		t.Errorf("A3: Or without room: %d %d", got.l, got.err)
	}
}

func TestOrOfAllPairs(t *testing.T) {
	r := rand.New(rand.NewSource(2))
	for range 60 {
		g := randomGraph(r, r.Intn(5), 10)
		for a := -2; a < 2*count(g)+2; a++ {
			for b := -2; b < 2*count(g)+2; b++ {
				if got, want := of(graph.Or(g, a, b)), of(plainOr(g, a, b)); !got.equal(want) {
					t.Fatalf("A3: Or(%v, %d, %d): %v, not %v", g, a, b, got, want)
				}
			}
		}
	}
}

func TestIteOfAllTriples(t *testing.T) {
	r := rand.New(rand.NewSource(3))
	for range 25 {
		g := randomGraph(r, r.Intn(4), 4)
		n := 2*count(g) + 4
		for i := range n * n * n {
			c, a, b := i/n/n-2, i/n%n-2, i%n-2
			if got, want := of(graph.Ite(g, c, a, b)), of(plainIte(g, c, a, b)); !got.equal(want) {
				t.Fatalf("A3: Ite(%v, %d, %d, %d): %v, not %v", g, c, a, b, got, want)
			}
		}
	}
}

func TestIteRefuses(t *testing.T) {
	g := api.Graph{Inputs: 3}
	for _, l := range []int{math.MinInt, -2, -1, 8, math.MaxInt} {
		for _, x := range [][3]int{{l, 1, 1}, {0, l, 1}, {1, l, 1}, {0, 1, l}, {1, 1, l}} {
			if got := of(graph.Ite(g, x[0], x[1], x[2])); !got.fails(api.ErrArg) {
				t.Errorf("A3: Ite of %v: %v", x, got)
			}
		}
	}
	if got := of(graph.Ite(api.Graph{Inputs: -1}, 1, 1, 1)); !got.fails(api.ErrArg) {
		t.Errorf("A3: Ite in a graph that is not valid: %v", got)
	}
}

// TestIteErrorsInOrder: with room for as many gates as the case says, what comes first decides.
func TestIteErrorsInOrder(t *testing.T) {
	for _, x := range []struct {
		name          string
		room, c, a, b int
		want          api.Errno
	}{
		{"negative condition without room", 0, -1, 4, 6, api.ErrArg},
		{"no room for the first gate, and no literal behind it", 0, 2, 4, -1, api.ErrLong},
		{"no literal, and no room behind it", 0, 2, -1, 6, api.ErrArg},
		{"room for the first gate, and no literal behind it", 1, 2, 4, -1, api.ErrArg},
		{"the first gate as a literal, which isn't there yet", 1, 2, 4, 2 * (api.MaxVars - 1), api.ErrLong},
		{"room for one gate", 1, 2, 4, 6, api.ErrLong},
		{"room for two gates", 2, 2, 4, 6, api.ErrLong},
		{"room for three gates", 3, 2, 4, 6, api.OK},
		{"a constant condition needs no room", 0, 1, 4, 6, api.OK},
	} {
		g := api.Graph{Inputs: api.MaxVars - 1 - x.room}
		got := of(graph.Ite(g, x.c, x.a, x.b))
		if got.err != x.want || x.want != api.OK && !got.fails(x.want) {
			t.Errorf("A3: %s: %d %d", x.name, got.l, got.err)
		}
	}
}

func TestMeanings(t *testing.T) {
	r := rand.New(rand.NewSource(4))
	for range 300 {
		g := randomGraph(r, r.Intn(5), 15)
		a, b, c := r.Intn(2*count(g)), r.Intn(2*count(g)), r.Intn(2*count(g))
		and, or, ite := of(graph.And(g, a, b)), of(graph.Or(g, a, b)), of(graph.Ite(g, c, a, b))
		for _, x := range []answer{and, or, ite} {
			if x.err != api.OK || !plainRight(x.g) || !slices.Equal(x.g.Ands[:len(g.Ands)], g.Ands) {
				t.Fatalf("A4: %v becomes %v", g, x)
			}
		}
		for in := range 1 << g.Inputs {
			v := values(g, in)
			x, y := value(v, a), value(v, b)
			if value(values(and.g, in), and.l) != (x && y) {
				t.Fatalf("A4: And(%v, %d, %d) of %b", g, a, b, in)
			}
			if value(values(or.g, in), or.l) != (x || y) {
				t.Fatalf("A4: Or(%v, %d, %d) of %b", g, a, b, in)
			}
			if z := value(v, c); value(values(ite.g, in), ite.l) != (z && x || !z && y) {
				t.Fatalf("A4: Ite(%v, %d, %d, %d) of %b", g, c, a, b, in)
			}
		}
	}
}

// TestUpToTheLimit builds a graph until there is no room, with literals that are often near each other, and computes each conjunction again in either order.
func TestUpToTheLimit(t *testing.T) {
	r := rand.New(rand.NewSource(5))
	g := api.Graph{Inputs: 5}
	for {
		n := 2 * count(g)
		a, b := r.Intn(n), r.Intn(n)
		if r.Intn(2) == 0 {
			a, b = n-1-r.Intn(10), n-1-r.Intn(10)
		}
		got, want := of(graph.And(g, a, b)), of(plainAnd(g, a, b))
		if !got.equal(want) {
			t.Fatalf("A2: And of %d and %d in %d variables: %d %d, not %d %d", a, b, count(g), got.l, got.err, want.l, want.err)
		}
		if turned := of(graph.And(g, b, a)); !turned.equal(got) {
			t.Fatalf("A4: And of %d and %d depends on their order: %d %d", a, b, turned.l, got.l)
		}
		if got.err == api.ErrLong {
			break
		}
		if again := of(graph.And(got.g, b, a)); !again.equal(got) {
			t.Fatalf("A4: And of %d and %d again: %d, not %d", a, b, again.l, got.l)
		}
		g = got.g
	}
	if count(g) != api.MaxVars || !graph.Right(g) {
		t.Errorf("A4: %d variables", count(g))
	}
}

// TestArguments: neither the gates nor the memory behind them is written to, and results can be written to.
func TestArguments(t *testing.T) {
	marked := [2]int{-7, -8}
	memory := gates{{4, 2}, {6, 3}, marked, marked, marked, marked}
	before := slices.Clone(memory)
	g := api.Graph{Inputs: 3, Ands: memory[:2]}
	var results []answer
	for _, x := range [][2]int{{2, 4}, {6, 3}, {0, 4}, {5, 3}, {11, 7}, {-1, 2}} {
		results = append(results, of(graph.And(g, x[0], x[1])), of(graph.Or(g, x[0], x[1])), of(graph.Ite(g, 6, x[0], x[1])))
	}
	if !slices.Equal(memory, before) {
		t.Fatalf("R3: %v", memory)
	}
	for _, x := range results {
		clear(x.g.Ands)
	}
	if !slices.Equal(memory, before) {
		t.Errorf("R3: results share memory with arguments: %v", memory)
	}
}

// TestAgain: the result depends on the arguments only, not on earlier calls.
func TestAgain(t *testing.T) {
	g := api.Graph{Inputs: 3, Ands: gates{{4, 2}}}
	other := api.Graph{Inputs: 3, Ands: gates{{5, 3}}}
	first := of(graph.And(g, 5, 3))
	graph.And(other, 5, 3)
	graph.And(api.Graph{Inputs: -1}, 5, 3)
	if again := of(graph.And(g, 5, 3)); !again.equal(first) || again.l != 10 {
		t.Errorf("R4: %v, then %v", first, again)
	}
}
