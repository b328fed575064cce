package circuit_test

import (
	"math"
	"math/rand"
	"reflect"
	"slices"
	"strconv"
	"strings"
	"testing"

	"parterre/api"
	"parterre/circuit"
	"parterre/eval"
	"parterre/graph"
)

type gates = [][2]int

const letters = "ilobcf"

// sample has two inputs (2, 4), three latches (6, 8, 10) and two gates (12, 14), and signals of every kind.
func sample() api.Circuit {
	return api.Circuit{
		Inputs:      2,
		Latches:     []api.Latch{{Next: 7}, {Next: 12, Reset: 1}, {Next: 15, Reset: 2}},
		Ands:        gates{{6, 2}, {13, 5}},
		Outputs:     []int{14, 0},
		Bads:        []int{15},
		Constraints: []int{1, 3, 8},
		Fair:        []int{11, 12},
		Names: []api.Name{
			{Kind: 'i', At: 1, Text: "go"},
			{Kind: 'l', At: 0, Text: "l1"},
			{Kind: 'l', At: 2, Text: "o0"},
			{Kind: 'o', At: 0, Text: "out"},
			{Kind: 'b', At: 0, Text: "!"},
			{Kind: 'c', At: 2, Text: "~x~"},
			{Kind: 'f', At: 0, Text: "i7"},
			{Kind: 'f', At: 1, Text: "12345678901234567890"},
		},
	}
}

// inverted is the chapter's example: a latch that is inverted in each step.
func inverted() api.Circuit { return api.Circuit{Latches: []api.Latch{{Next: 3}}} }

// number is how many signals of a kind there are.
func number(c api.Circuit, kind byte) int {
	switch kind {
	case 'i':
		return c.Inputs
	case 'l':
		return len(c.Latches)
	case 'o':
		return len(c.Outputs)
	case 'b':
		return len(c.Bads)
	case 'c':
		return len(c.Constraints)
	case 'f':
		return len(c.Fair)
	}
	return 0
}

// plainRight is promise D2 read word by word.
func plainRight(c api.Circuit) bool {
	for _, n := range []int{c.Inputs, len(c.Latches), len(c.Outputs), len(c.Bads), len(c.Constraints), len(c.Fair)} {
		if n < 0 || n > 2000 {
			return false
		}
	}
	g := api.Graph{Inputs: c.Inputs + len(c.Latches), Ands: c.Ands}
	all := slices.Concat(c.Outputs, c.Bads, c.Constraints, c.Fair)
	for _, latch := range c.Latches {
		all = append(all, latch.Next)
		if latch.Reset != 0 && latch.Reset != 1 && latch.Reset != 2 {
			return false
		}
	}
	if !graph.Right(g) {
		return false
	}
	for _, l := range all {
		if !graph.Lit(g, l) {
			return false
		}
	}
	return plainNames(c)
}

func plainNames(c api.Circuit) bool {
	place := func(n api.Name) int { return strings.IndexByte(letters, n.Kind) }
	for i, n := range c.Names {
		if len(n.Text) < 1 || len(n.Text) > 20 || n.At < 0 || n.At >= number(c, n.Kind) {
			return false
		}
		for _, b := range []byte(n.Text) {
			if b < 33 || b > 126 {
				return false
			}
		}
		for _, m := range c.Names[:i] {
			if m.Text == n.Text || place(m) > place(n) || m.Kind == n.Kind && m.At >= n.At {
				return false
			}
		}
	}
	return true
}

// plainSignal is promise D3 read word by word.
func plainSignal(c api.Circuit, kind byte, at int) int {
	if !plainRight(c) || at < 0 || at >= number(c, kind) {
		return -1
	}
	switch kind {
	case 'i':
		return 2*at + 2
	case 'l':
		return 2*c.Inputs + 2*at + 2
	}
	return map[byte][]int{'o': c.Outputs, 'b': c.Bads, 'c': c.Constraints, 'f': c.Fair}[kind][at]
}

// plainFind is promise D4 read from the other end: it goes through all signals that there are.
func plainFind(c api.Circuit, s string) int {
	for _, n := range c.Names {
		if n.Text == s {
			return plainSignal(c, n.Kind, n.At)
		}
	}
	for _, kind := range []byte(letters) {
		for at := range max(number(c, kind), 0) {
			if string(kind)+strconv.Itoa(at) == s {
				return plainSignal(c, kind, at)
			}
		}
	}
	return -1
}

// plainIs is promise D5 for Is, by the gates of a valid circuit.
func plainIs(c api.Circuit, state, l int) bool {
	if l < 0 || l >= 2*(1+c.Inputs+len(c.Latches)+len(c.Ands)) {
		return false
	}
	v, bits := l/2, c.Inputs+len(c.Latches)
	is := false
	switch {
	case v > bits:
		gate := c.Ands[v-1-bits]
		is = plainIs(c, state, gate[0]) && plainIs(c, state, gate[1])
	case v > 0:
		is = uint64(state)/(1<<(v-1))%2 == 1
	}
	return is == (l%2 == 0)
}

// plainAfter is promise D5 for After, likewise.
func plainAfter(c api.Circuit, state int) int {
	after := 0
	for i, latch := range c.Latches {
		if plainIs(c, state, latch.Next) {
			after += 1 << (c.Inputs + i)
		}
	}
	return after
}

// randomCircuit returns a valid circuit with a few signals of each kind, some of which have names.
func randomCircuit(r *rand.Rand) api.Circuit {
	c := api.Circuit{Inputs: r.Intn(4)}
	g := api.Graph{Inputs: c.Inputs + r.Intn(4)}
	latches := g.Inputs - c.Inputs
	for range r.Intn(8) {
		vars := 1 + g.Inputs + len(g.Ands)
		g, _, _ = graph.And(g, r.Intn(2*vars), r.Intn(2*vars))
	}
	c.Ands = g.Ands
	literals := func(n int) []int {
		list := make([]int, n)
		for i := range list {
			list[i] = r.Intn(2 * (1 + g.Inputs + len(g.Ands)))
		}
		return list
	}
	for _, next := range literals(latches) {
		c.Latches = append(c.Latches, api.Latch{Next: next, Reset: r.Intn(3)})
	}
	c.Outputs, c.Bads, c.Constraints, c.Fair = literals(r.Intn(3)), literals(r.Intn(3)), literals(r.Intn(3)), literals(r.Intn(3))
	for _, kind := range []byte(letters) {
		for at := range number(c, kind) {
			if r.Intn(2) == 0 {
				// Some texts are those of other signals' kinds and numbers.
				text := string(letters[r.Intn(6)]) + strconv.Itoa(r.Intn(3))
				if slices.ContainsFunc(c.Names, func(n api.Name) bool { return n.Text == text }) {
					text = "n" + strconv.Itoa(len(c.Names))
				}
				c.Names = append(c.Names, api.Name{Kind: kind, At: at, Text: text})
			}
		}
	}
	return c
}

// spoiled returns c with one number or text changed a little; it may still be valid.
func spoiled(r *rand.Rand, c api.Circuit) api.Circuit {
	c = cloned(c)
	small := func(list []int) {
		if len(list) > 0 {
			list[r.Intn(len(list))] = r.Intn(34) - 2
		}
	}
	switch r.Intn(9) {
	case 0:
		c.Inputs = r.Intn(8) - 2
	case 1:
		small(c.Outputs)
	case 2:
		small(c.Bads)
	case 3:
		small(c.Constraints)
	case 4:
		small(c.Fair)
	case 5:
		for i := range c.Latches {
			c.Latches[i] = api.Latch{Next: r.Intn(34) - 2, Reset: r.Intn(5) - 1}
		}
	case 6:
		for i := range c.Ands {
			c.Ands[i][r.Intn(2)] = r.Intn(16) - 1
		}
	default:
		if len(c.Names) > 0 {
			n := &c.Names[r.Intn(len(c.Names))]
			switch r.Intn(4) {
			case 0:
				n.Kind = "ilobcfx"[r.Intn(7)]
			case 1:
				n.At = r.Intn(6) - 1
			case 2:
				n.Text = strings.Repeat(string(rune(30+r.Intn(110))), r.Intn(23))
			case 3:
				n.Text = c.Names[0].Text
			}
		}
	}
	return c
}

func cloned(c api.Circuit) api.Circuit {
	c.Latches, c.Ands, c.Names = slices.Clone(c.Latches), slices.Clone(c.Ands), slices.Clone(c.Names)
	c.Outputs, c.Bads = slices.Clone(c.Outputs), slices.Clone(c.Bads)
	c.Constraints, c.Fair = slices.Clone(c.Constraints), slices.Clone(c.Fair)
	return c
}

// refused says that nothing is answered for a circuit that is not valid.
func refused(c api.Circuit) bool {
	for _, kind := range []byte(letters) {
		if circuit.Signal(c, kind, 0) != -1 || circuit.Find(c, string(kind)+"0") != -1 {
			return false
		}
	}
	for _, n := range c.Names {
		if circuit.Find(c, n.Text) != -1 {
			return false
		}
	}
	for _, state := range []int{0, -1} {
		if circuit.Is(c, state, 1) || circuit.Is(c, state, 2) || circuit.Is(c, state, 3) || circuit.After(c, state) != 0 {
			return false
		}
	}
	return !circuit.Right(c)
}

func TestOf(t *testing.T) {
	for _, x := range []struct {
		name string
		c    api.Circuit
		want api.Graph
	}{
		{"nothing", api.Circuit{}, api.Graph{}},
		{"inputs", api.Circuit{Inputs: 3}, api.Graph{Inputs: 3}},
		{"latches", api.Circuit{Latches: make([]api.Latch, 4)}, api.Graph{Inputs: 4}},
		{"all", sample(), api.Graph{Inputs: 5, Ands: gates{{6, 2}, {13, 5}}}},
		{"negative inputs", api.Circuit{Inputs: -3, Latches: make([]api.Latch, 1)}, api.Graph{Inputs: -2}},
		{"too many inputs", api.Circuit{Inputs: 5000, Latches: make([]api.Latch, 5000)}, api.Graph{Inputs: 10000}},
		{"gates that are not valid", api.Circuit{Inputs: 1, Ands: gates{{-1, 99}, {0, 0}}}, api.Graph{Inputs: 1, Ands: gates{{-1, 99}, {0, 0}}}},
		{"greatest int", api.Circuit{Inputs: math.MaxInt}, api.Graph{Inputs: math.MaxInt}},
		{"least int", api.Circuit{Inputs: math.MinInt}, api.Graph{Inputs: math.MinInt}},
	} {
		got := circuit.Of(x.c)
		if got.Inputs != x.want.Inputs || !slices.Equal(got.Ands, x.want.Ands) {
			t.Errorf("D1: %s: %v", x.name, got)
		}
	}
}

// change is a way to change a circuit, and whether the changed one is valid.
type change struct {
	name string
	with func(c *api.Circuit)
	want bool
}

func (x change) test(t *testing.T, c api.Circuit) {
	t.Helper()
	c = cloned(c)
	x.with(&c)
	if circuit.Right(c) != x.want {
		t.Errorf("D2: %s: %v", x.name, !x.want)
	}
	if !x.want && !refused(c) {
		t.Errorf("D3 to D5: %s: a circuit that is not valid has signals or steps", x.name)
	}
}

func TestRightOfNumbers(t *testing.T) {
	latches := func(n int) []api.Latch { return make([]api.Latch, n) }
	for _, x := range []struct {
		name string
		c    api.Circuit
		want bool
	}{
		{"nothing", api.Circuit{}, true},
		{"empty lists", api.Circuit{Latches: []api.Latch{}, Ands: gates{}, Outputs: []int{}, Bads: []int{}, Constraints: []int{}, Fair: []int{}, Names: []api.Name{}}, true},
		{"inverted", inverted(), true},
		{"sample", sample(), true},
		{"1999 inputs", api.Circuit{Inputs: 1999}, true},
		{"2000 inputs", api.Circuit{Inputs: 2000}, false},
		{"2001 inputs", api.Circuit{Inputs: 2001}, false},
		{"1999 latches", api.Circuit{Latches: latches(1999)}, true},
		{"2000 latches", api.Circuit{Latches: latches(2000)}, false},
		{"2001 latches", api.Circuit{Latches: latches(2001)}, false},
		{"1000 inputs and 999 latches", api.Circuit{Inputs: 1000, Latches: latches(999)}, true},
		{"1000 inputs and 1000 latches", api.Circuit{Inputs: 1000, Latches: latches(1000)}, false},
		{"inputs, latches and a gate", api.Circuit{Inputs: 1000, Latches: latches(998), Ands: gates{{4, 2}}}, true},
		{"inputs, latches and a gate too many", api.Circuit{Inputs: 1000, Latches: latches(999), Ands: gates{{4, 2}}}, false},
		{"negative inputs", api.Circuit{Inputs: -1}, false},
		{"negative inputs that a latch makes good", api.Circuit{Inputs: -1, Latches: latches(1)}, false},
		{"negative inputs that latches make good", api.Circuit{Inputs: -1, Latches: latches(5)}, false},
		{"least int", api.Circuit{Inputs: math.MinInt}, false},
		{"least int and latches", api.Circuit{Inputs: math.MinInt, Latches: latches(3)}, false},
		{"greatest int", api.Circuit{Inputs: math.MaxInt}, false},
		{"greatest int and latches", api.Circuit{Inputs: math.MaxInt, Latches: latches(3)}, false},
	} {
		if circuit.Right(x.c) != x.want {
			t.Errorf("D2: %s: %v", x.name, !x.want)
		}
		if !x.want && !refused(x.c) {
			t.Errorf("D3 to D5: %s", x.name)
		}
	}
}

// TestRightOfLists: each list may have 2000 elements.
func TestRightOfLists(t *testing.T) {
	for i, with := range []func(c *api.Circuit, list []int){
		func(c *api.Circuit, list []int) { c.Outputs = list },
		func(c *api.Circuit, list []int) { c.Bads = list },
		func(c *api.Circuit, list []int) { c.Constraints = list },
		func(c *api.Circuit, list []int) { c.Fair = list },
	} {
		for n, want := range map[int]bool{1999: true, 2000: true, 2001: false, 100000: false} {
			c := inverted()
			with(&c, make([]int, n))
			if circuit.Right(c) != want || !want && !refused(c) {
				t.Errorf("D2: list %d with %d elements", i, n)
			}
		}
		// The graph of sample has the literals 0 to 15.
		for l, want := range map[int]bool{math.MinInt: false, -2: false, -1: false, 0: true, 1: true, 2: true, 11: true, 14: true, 15: true, 16: false, 17: false, math.MaxInt: false} {
			for _, list := range [][]int{{l}, {l, 2, 3}, {2, l, 3}, {2, 3, l}} {
				c := sample()
				c.Names = nil
				with(&c, list)
				if circuit.Right(c) != want || !want && !refused(c) {
					t.Errorf("D2: list %d: %v", i, list)
				}
			}
		}
	}
	all := make([]int, 2000)
	if !circuit.Right(api.Circuit{Outputs: all, Bads: all, Constraints: all, Fair: all}) {
		t.Error("D2: 2000 of all kinds")
	}
}

func TestRightOfLatches(t *testing.T) {
	for place := range 3 {
		for next, want := range map[int]bool{math.MinInt: false, -1: false, 0: true, 1: true, 15: true, 16: false, 17: false, math.MaxInt: false} {
			change{"Next " + strconv.Itoa(next), func(c *api.Circuit) { c.Latches[place].Next = next }, want}.test(t, sample())
		}
		for reset, want := range map[int]bool{math.MinInt: false, -1: false, 0: true, 1: true, 2: true, 3: false, 4: false, 6: false, math.MaxInt: false} {
			change{"Reset " + strconv.Itoa(reset), func(c *api.Circuit) { c.Latches[place].Reset = reset }, want}.test(t, sample())
		}
	}
}

func TestRightOfGates(t *testing.T) {
	for _, x := range []change{
		{"no constants", func(c *api.Circuit) { c.Ands[0] = [2]int{6, 1} }, false},
		{"the greater one first", func(c *api.Circuit) { c.Ands[0] = [2]int{2, 6} }, false},
		{"the own variable", func(c *api.Circuit) { c.Ands[0] = [2]int{12, 2} }, false},
		{"the last latch", func(c *api.Circuit) { c.Ands[0] = [2]int{11, 2} }, true},
		{"equal gates", func(c *api.Circuit) { c.Ands[1] = c.Ands[0] }, false},
		{"no gates, but literals of gates", func(c *api.Circuit) { c.Ands = nil }, false},
		{"one more gate", func(c *api.Circuit) { c.Ands = append(c.Ands, [2]int{14, 2}) }, true},
		{"a latch less", func(c *api.Circuit) { c.Latches = c.Latches[:2] }, false},
		{"a million gates", func(c *api.Circuit) { c.Ands = make(gates, 1000000) }, false},
	} {
		x.test(t, sample())
	}
}

func TestRightOfTexts(t *testing.T) {
	for place := range len(sample().Names) {
		text := func(s string, want bool) {
			t.Helper()
			change{strconv.Quote(s), func(c *api.Circuit) { c.Names[place].Text = s }, want}.test(t, sample())
		}
		for b := range 256 {
			ok := 33 <= b && b <= 126
			text("z"+string([]byte{byte(b)}), ok)
			text(string([]byte{byte(b), 'z'}), ok)
			text("y"+string([]byte{byte(b)})+"z", ok)
		}
		text("", false)
		text(strings.Repeat("z", 19), true)
		text(strings.Repeat("z", 20), true)
		text(strings.Repeat("z", 21), false)
		text(strings.Repeat("z", 1000000), false)
		text("é", false)
		text("\uFFFD", false)
		text("\U00010041", false)
		text(strings.Repeat("é", 11), false)
	}
}

func TestRightOfEqualTexts(t *testing.T) {
	n := len(sample().Names)
	for i := range n {
		for k := range n {
			change{"equal texts", func(c *api.Circuit) { c.Names[i].Text = c.Names[k].Text }, i == k}.test(t, sample())
		}
	}
	change{"upper case", func(c *api.Circuit) { c.Names[2].Text = "GO" }, true}.test(t, sample())
	change{"longer", func(c *api.Circuit) { c.Names[2].Text = "go!" }, true}.test(t, sample())
}

func TestRightOfNamesThatExist(t *testing.T) {
	c := sample()
	for kind := range 256 {
		for _, at := range []int{math.MinInt, -1, 0, 1, 2, 3, 1999, 2000, math.MaxInt} {
			want := 0 <= at && at < number(c, byte(kind))
			name := api.Name{Kind: byte(kind), At: at, Text: "a"}
			change{strconv.Itoa(kind) + " " + strconv.Itoa(at), func(c *api.Circuit) { c.Names = []api.Name{name} }, want}.test(t, c)
		}
	}
	// Inputs and latches are counted apart, as are the others.
	none := api.Circuit{Inputs: 3, Outputs: []int{0}}
	for _, kind := range []byte("lbcf") {
		change{string(kind), func(c *api.Circuit) { c.Names = []api.Name{{Kind: kind, Text: "a"}} }, false}.test(t, none)
	}
}

// TestRightOfPairs looks at all pairs of names of signals: the second one has to be behind the first one.
func TestRightOfPairs(t *testing.T) {
	c := sample()
	c.Names = nil
	for place, kind := range []byte(letters) {
		for at := range number(c, kind) {
			for place2, kind2 := range []byte(letters) {
				for at2 := range number(c, kind2) {
					want := place < place2 || place == place2 && at < at2
					names := []api.Name{{Kind: kind, At: at, Text: "z"}, {Kind: kind2, At: at2, Text: "a"}}
					change{"pair", func(c *api.Circuit) { c.Names = names }, want}.test(t, c)
				}
			}
		}
	}
}

func TestRightOfOrder(t *testing.T) {
	n := len(sample().Names)
	for i := range n {
		for k := range n {
			change{"exchanged", func(c *api.Circuit) { c.Names[i], c.Names[k] = c.Names[k], c.Names[i] }, i == k}.test(t, sample())
		}
		change{"twice", func(c *api.Circuit) {
			c.Names = slices.Insert(c.Names, i, c.Names[i])
			c.Names[i].Text = "other"
		}, false}.test(t, sample())
		change{"left out", func(c *api.Circuit) { c.Names = slices.Delete(c.Names, i, i+1) }, true}.test(t, sample())
	}
}

// TestManyNames: as many names as there can be.
func TestManyNames(t *testing.T) {
	list := make([]int, 2000)
	c := api.Circuit{Inputs: 1000, Latches: make([]api.Latch, 999), Outputs: list, Bads: list, Constraints: list, Fair: list}
	for _, kind := range []byte(letters) {
		for at := range number(c, kind) {
			c.Names = append(c.Names, api.Name{Kind: kind, At: at, Text: "name" + strconv.Itoa(len(c.Names))})
		}
	}
	if !circuit.Right(c) || circuit.Find(c, "name0") != 2 || circuit.Find(c, "name1998") != 3998 || circuit.Find(c, "name9998") != 0 || circuit.Find(c, "name9999") != -1 {
		t.Error("D2, D4: all signals have names")
	}
	c.Names[len(c.Names)-1].Text = "name0"
	if !refused(api.Circuit{Inputs: 1, Names: c.Names}) || circuit.Right(c) {
		t.Error("D2: the last name is the first one's")
	}
	if circuit.Right(api.Circuit{Inputs: 1, Names: make([]api.Name, 1000000)}) {
		t.Error("D2: a million names")
	}
}

func TestSignal(t *testing.T) {
	c := sample()
	want := map[byte][]int{'i': {2, 4}, 'l': {6, 8, 10}, 'o': {14, 0}, 'b': {15}, 'c': {1, 3, 8}, 'f': {11, 12}}
	for kind := range 256 {
		list := want[byte(kind)]
		for at := -2; at < 6; at++ {
			literal := -1
			if 0 <= at && at < len(list) {
				literal = list[at]
			}
			if got := circuit.Signal(c, byte(kind), at); got != literal {
				t.Errorf("D3: %d %d: %d", kind, at, got)
			}
		}
		for _, at := range []int{math.MinInt, math.MaxInt, -1 << 32, 1 << 32} {
			if circuit.Signal(c, byte(kind), at) != -1 {
				t.Errorf("D3: %d %d", kind, at)
			}
		}
	}
	if circuit.Signal(api.Circuit{Inputs: 1999}, 'i', 1998) != 3998 || circuit.Signal(api.Circuit{Inputs: 1999}, 'i', 1999) != -1 {
		t.Error("D3: the last input")
	}
}

func TestFind(t *testing.T) {
	c := sample()
	for s, want := range map[string]int{
		// names
		"go": 4, "l1": 6, "o0": 10, "out": 14, "!": 15, "~x~": 8, "i7": 11, "12345678901234567890": 12,
		// kinds and numbers
		"i0": 2, "i1": 4, "l0": 6, "l2": 10, "o1": 0, "b0": 15, "c0": 1, "c1": 3, "c2": 8, "f0": 11, "f1": 12,
		// signals that there are not
		"i2": -1, "l3": -1, "o2": -1, "b1": -1, "c3": -1, "f2": -1, "i999999": -1,
		// other texts
		"": -1, "i": -1, "l": -1, "0": -1, "1": -1, "x0": -1, "I0": -1, "a0": -1, "j0": -1, "i00": -1, "i01": -1, "i000001": -1,
		"i-0": -1, "i+0": -1, "i-1": -1, "i 0": -1, "i0 ": -1, " i0": -1, "i0\n": -1, "i0x": -1, "i0.": -1, "i1e0": -1, "i0x0": -1, "i0_0": -1, "i1_": -1,
		"i/": -1, "i:": -1, "ii0": -1, "il0": -1, "i0i0": -1, "0i": -1,
		"i1000000": -1, "i0000000": -1, "i0000001": -1, "i4294967296": -1, "i18446744073709551616": -1, "i18446744073709551617": -1,
		"go ": -1, "g": -1, "goo": -1, "GO": -1, "1234567890123456789": -1, "123456789012345678901": -1,
		"\xe9" + "0": -1, "i\u0660": -1, "i\uFF10": -1, "\uFF490": -1, "i\x00": -1, "i0\x00": -1, "i\xff": -1, "\xff": -1,
	} {
		if got := circuit.Find(c, s); got != want {
			t.Errorf("D4: %q: %d", s, got)
		}
	}
	if circuit.Find(c, strings.Repeat("i0", 1000000)) != -1 {
		t.Error("D4: a long text")
	}
	for kind := range 256 {
		want := circuit.Signal(c, byte(kind), 1)
		if byte(kind) == 'l' {
			want = 6
		}
		if got := circuit.Find(c, string([]byte{byte(kind), '1'})); got != want {
			t.Errorf("D4: the letter %d: %d", kind, got)
		}
	}
	// A text with the byte of a kind in a longer rune is no letter of a kind.
	for _, kind := range letters {
		if circuit.Find(c, string(kind+0x100)+"0") != -1 || circuit.Find(c, string(kind+0x10000)+"0") != -1 {
			t.Errorf("D4: a rune like %c", kind)
		}
	}
}

func TestFindOfNumbers(t *testing.T) {
	c := api.Circuit{Inputs: 1999}
	for s, want := range map[string]int{"i9": 20, "i10": 22, "i99": 200, "i100": 202, "i999": 2000, "i1000": 2002, "i1998": 3998, "i1999": -1, "i01998": -1, "i001998": -1, "i10000": -1, "i100000": -1} {
		if got := circuit.Find(c, s); got != want {
			t.Errorf("D4: %q: %d", s, got)
		}
	}
	// No other byte is a digit, wherever it stands, though there are signals enough for what it would count.
	for b := range 256 {
		if '0' <= b && b <= '9' {
			continue
		}
		for _, s := range []string{string([]byte{'i', byte(b)}), string([]byte{'i', '1', byte(b)}), string([]byte{'i', byte(b), '1'}), string([]byte{'i', '1', byte(b), '1'})} {
			if got := circuit.Find(c, s); got != -1 {
				t.Errorf("D4: %q: %d", s, got)
			}
		}
	}
}

func TestAfterExample(t *testing.T) {
	if circuit.After(inverted(), 0) != 1 || circuit.After(inverted(), 1) != 0 {
		t.Error("D5: a latch that is inverted in each step")
	}
}

func TestSteps(t *testing.T) {
	c := sample()
	for state := range 32 {
		for l := -3; l < 20; l++ {
			if circuit.Is(c, state, l) != plainIs(c, state, l) {
				t.Errorf("D5: Is %d %d", state, l)
			}
		}
		if got := circuit.After(c, state); got != plainAfter(c, state) || got%4 != 0 {
			t.Errorf("D5: After %d: %d", state, got)
		}
	}
	for _, l := range []int{math.MinInt, math.MinInt + 1, math.MaxInt - 1, math.MaxInt} {
		if circuit.Is(c, -1, l) {
			t.Errorf("D5: Is of %d", l)
		}
	}
	if !circuit.Is(api.Circuit{}, 0, 1) || circuit.Is(api.Circuit{}, 5, 0) || circuit.Is(api.Circuit{}, 5, 2) || circuit.After(api.Circuit{}, 5) != 0 {
		t.Error("D5: neither inputs nor latches")
	}
	// Constraints, Resets and Names have no part in a step.
	plain := cloned(c)
	plain.Constraints, plain.Names = []int{0}, nil
	for i := range plain.Latches {
		plain.Latches[i].Reset = 1
	}
	for state := range 32 {
		if circuit.After(plain, state) != circuit.After(c, state) {
			t.Errorf("D5: After %d", state)
		}
	}
}

// shift returns a circuit whose latches take the value of the input, or of the latch, before them.
func shift(inputs, latches int) api.Circuit {
	c := api.Circuit{Inputs: inputs}
	for i := range latches {
		c.Latches = append(c.Latches, api.Latch{Next: 2 * (inputs + i)})
	}
	return c
}

func TestStepsOfWideCircuits(t *testing.T) {
	for inputs := range 61 {
		c := shift(inputs, 60-inputs)
		if !circuit.Right(c) {
			t.Fatal("D2: 60 inputs and latches")
		}
		for _, state := range []int{0, 1, -1, 1 << 58, 1 << 59, 1 << 60, 1<<60 - 1, 0x123456789ABCDEF, math.MaxInt, math.MinInt} {
			want := state << 1 & (1<<60 - 1) &^ (1<<inputs - 1)
			if got := circuit.After(c, state); got != want {
				t.Errorf("D5: %d inputs: After %x: %x", inputs, state, got)
			}
			for i := range 60 {
				is := uint64(state)>>i&1 == 1
				if circuit.Is(c, state, 2*i+2) != is || circuit.Is(c, state, 2*i+3) == is {
					t.Errorf("D5: %d inputs: bit %d of %x", inputs, i, state)
				}
			}
			if circuit.Is(c, state, 122) || circuit.Is(c, state, 123) {
				t.Error("D5: no literal")
			}
		}
		c = shift(inputs, 61-inputs)
		if !circuit.Right(c) || circuit.Signal(c, 'x', 0) != -1 || circuit.Find(c, "i0") != circuit.Signal(c, 'i', 0) {
			t.Error("D2: 61 inputs and latches")
		}
		for _, state := range []int{0, 1, -1} {
			if circuit.After(c, state) != 0 || circuit.Is(c, state, 1) || circuit.Is(c, state, 2) || circuit.Is(c, state, 3) {
				t.Errorf("D5: 61 inputs and latches, %d inputs", inputs)
			}
		}
	}
	if circuit.Is(api.Circuit{Inputs: 1999}, -1, 2) || circuit.After(api.Circuit{Latches: []api.Latch{{Next: 1}}, Inputs: 1998}, -1) != 0 {
		t.Error("D5: 1999 inputs and latches")
	}
}

// TestStepsOfTheDeepestGraph: gates one above the other, as many as there can be.
func TestStepsOfTheDeepestGraph(t *testing.T) {
	c := api.Circuit{Inputs: 1, Latches: []api.Latch{{Next: 3999}}}
	for v := 2; v < 1999; v++ {
		c.Ands = append(c.Ands, [2]int{2*v + 1, 2})
	}
	// While the input is true, each gate inverts the latch or gate below it; otherwise all are false. There are 1997 of them.
	for state, last := range []bool{false, true, false, false} {
		after := 2
		if last {
			after = 0
		}
		if circuit.Is(c, state, 3998) != last || circuit.Is(c, state, 3999) == last || circuit.After(c, state) != after {
			t.Errorf("D5: %d: %v, %d", state, circuit.Is(c, state, 3998), circuit.After(c, state))
		}
	}
}

func TestRandomCircuits(t *testing.T) {
	r := rand.New(rand.NewSource(11))
	valid, broken := 0, 0
	for range 3000 {
		c := randomCircuit(r)
		if !circuit.Right(c) || !plainRight(c) {
			t.Fatalf("D2: %v", c)
		}
		sameAsPlain(t, c)
		c = spoiled(r, c)
		if circuit.Right(c) != plainRight(c) {
			t.Fatalf("D2: %v", c)
		}
		if !circuit.Right(c) {
			broken++
			if !refused(c) {
				t.Fatalf("D3 to D5: %v", c)
			}
			continue
		}
		valid++
		sameAsPlain(t, c)
	}
	if valid < 200 || broken < 200 {
		t.Errorf("%d valid and %d broken circuits are no test", valid, broken)
	}
}

// sameAsPlain holds the signals and the steps of a small valid circuit against the promises.
func sameAsPlain(t *testing.T, c api.Circuit) {
	t.Helper()
	for _, kind := range []byte(letters + "x") {
		for at := -1; at < 6; at++ {
			s := string(kind) + strconv.Itoa(at)
			if circuit.Signal(c, kind, at) != plainSignal(c, kind, at) || circuit.Find(c, s) != plainFind(c, s) {
				t.Fatalf("D3, D4: %v: %s", c, s)
			}
		}
	}
	for state := -1; state < 1<<(c.Inputs+len(c.Latches)); state++ {
		if circuit.After(c, state) != plainAfter(c, state) {
			t.Fatalf("D5: %v: After %d", c, state)
		}
		for l := -1; l < 2*(1+c.Inputs+len(c.Latches)+len(c.Ands))+2; l++ {
			if circuit.Is(c, state, l) != plainIs(c, state, l) {
				t.Fatalf("D5: %v: Is %d %d", c, state, l)
			}
		}
	}
}

// TestIsWhatEvalReturns: D5 says the value by layer 2.
func TestIsWhatEvalReturns(t *testing.T) {
	c := sample()
	for state := range 32 {
		var in []bool
		for i := range 5 {
			in = append(in, state>>i&1 == 1)
		}
		for l := -1; l < 18; l++ {
			if circuit.Is(c, state, l) != eval.Eval(circuit.Of(c), l, in) {
				t.Errorf("D5: Is %d %d", state, l)
			}
		}
	}
}

// TestTheorem is promise D6.
func TestTheorem(t *testing.T) {
	r := rand.New(rand.NewSource(12))
	for range 500 {
		c := randomCircuit(r)
		for _, n := range c.Names {
			if got := circuit.Find(c, n.Text); got == -1 || got != circuit.Signal(c, n.Kind, n.At) {
				t.Fatalf("D6: %v: %s: %d", c, n.Text, got)
			}
		}
		bits := c.Inputs + len(c.Latches)
		state := r.Intn(1 << bits)
		for _, above := range []int{1 << bits, 1 << 40, 1 << 62, math.MinInt, -1 << bits} {
			if circuit.After(c, state|above) != circuit.After(c, state) {
				t.Fatalf("D6: %v: After %d", c, state|above)
			}
		}
		if after := circuit.After(c, state); after < 0 || after >= 1<<bits || after&(1<<c.Inputs-1) != 0 {
			t.Fatalf("D6: %v: After %d: %d", c, state, after)
		}
	}
}

// TestArguments: neither arguments nor the memory behind them is written to, and a result can be written to.
func TestArguments(t *testing.T) {
	whole := sample()
	whole.Latches = append(whole.Latches, api.Latch{Next: -7})
	whole.Ands = append(whole.Ands, [2]int{-7, -8})
	whole.Outputs, whole.Bads = append(whole.Outputs, -9), append(whole.Bads, -9)
	whole.Constraints, whole.Fair = append(whole.Constraints, -9), append(whole.Fair, -9)
	whole.Names = append(whole.Names, api.Name{Kind: 'q', Text: "behind"})
	before := cloned(whole)
	c := whole
	c.Latches, c.Ands, c.Names = c.Latches[:3], c.Ands[:2], c.Names[:8]
	c.Outputs, c.Bads, c.Constraints, c.Fair = c.Outputs[:2], c.Bads[:1], c.Constraints[:3], c.Fair[:2]
	for _, x := range []api.Circuit{c, whole} {
		circuit.Right(x)
		circuit.Signal(x, 'f', 1)
		circuit.Find(x, "l2")
		circuit.Find(x, "go")
		circuit.Is(x, 5, 14)
		circuit.After(x, 5)
		g := circuit.Of(x)
		_ = append(g.Ands, [2]int{-5, -5})
		for i := range g.Ands {
			g.Ands[i] = [2]int{-6, -6}
		}
		if !reflect.DeepEqual(whole, before) {
			t.Fatalf("R3: %v", whole)
		}
	}
}

// TestAgain: the result depends on the arguments only, not on earlier calls.
func TestAgain(t *testing.T) {
	c := sample()
	for range 3 {
		if circuit.Find(c, "l1") != 6 || circuit.Find(c, "l2") != 10 || circuit.After(c, 0) != plainAfter(c, 0) || !circuit.Is(c, 4, 6) {
			t.Error("R4")
		}
		other := sample()
		other.Names = []api.Name{{Kind: 'i', Text: "l1"}}
		if circuit.Find(other, "l1") != 2 || circuit.Find(other, "go") != -1 || circuit.After(inverted(), 0) != 1 {
			t.Error("R4: another circuit")
		}
		refused(api.Circuit{Inputs: -1})
	}
}
