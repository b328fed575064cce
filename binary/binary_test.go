package binary_test

import (
	stdbinary "encoding/binary"
	"fmt"
	"math"
	"math/rand"
	"reflect"
	"slices"
	"strconv"
	"strings"
	"testing"

	"parterre/aag"
	"parterre/api"
	"parterre/binary"
	"parterre/circuit"
	"parterre/graph"
)

type gates = [][2]int

// sample has two inputs (2, 4), four latches (6, 8, 10, 12) and two gates (14, 16), and signals and names of every kind.
func sample() api.Circuit {
	return api.Circuit{
		Inputs:      2,
		Latches:     []api.Latch{{Next: 7}, {Next: 14, Reset: 1}, {Next: 17, Reset: 2}, {Next: 0, Reset: 2}},
		Ands:        gates{{6, 2}, {15, 5}},
		Outputs:     []int{16, 0},
		Bads:        []int{17},
		Constraints: []int{1, 3, 8},
		Fair:        []int{11, 14},
		Names: []api.Name{
			{Kind: 'i', At: 1, Text: "go"},
			{Kind: 'l', At: 0, Text: "l1"},
			{Kind: 'l', At: 3, Text: "c"},
			{Kind: 'o', At: 0, Text: "out"},
			{Kind: 'b', At: 0, Text: "!"},
			{Kind: 'c', At: 2, Text: "~x~"},
			{Kind: 'f', At: 0, Text: "7"},
			{Kind: 'f', At: 1, Text: "12345678901234567890"},
		},
	}
}

const (
	sampleHead  = "aig 8 2 4 2 2 1 3 0 2\n"
	sampleLines = "7\n14 1\n17 10\n0 12\n16\n0\n17\n1\n3\n8\n11\n14\n"
	sampleGates = "\x08\x04\x01\x0a"
	sampleNames = "i1 go\nl0 l1\nl3 c\no0 out\nb0 !\nc2 ~x~\nf0 7\nf1 12345678901234567890\n"
	sampleText  = sampleHead + sampleLines + sampleGates + sampleNames
)

// same compares circuits; an empty list may be nil or not.
func same(a, b api.Circuit) bool {
	return a.Inputs == b.Inputs && slices.Equal(a.Latches, b.Latches) && slices.Equal(a.Ands, b.Ands) &&
		slices.Equal(a.Outputs, b.Outputs) && slices.Equal(a.Bads, b.Bads) &&
		slices.Equal(a.Constraints, b.Constraints) && slices.Equal(a.Fair, b.Fair) && slices.Equal(a.Names, b.Names)
}

// plainPrint is promise F1 read word by word, with the varints of the library.
func plainPrint(c api.Circuit) (string, api.Errno) {
	if !circuit.Right(c) {
		return "", api.ErrArg
	}
	s := fmt.Sprintf("aig %d %d %d %d %d %d %d 0 %d\n", c.Inputs+len(c.Latches)+len(c.Ands), c.Inputs, len(c.Latches), len(c.Outputs), len(c.Ands), len(c.Bads), len(c.Constraints), len(c.Fair))
	own := 2 * c.Inputs
	for _, latch := range c.Latches {
		own += 2
		s += fmt.Sprintf("%d%s\n", latch.Next, []string{"", " 1", fmt.Sprintf(" %d", own)}[latch.Reset])
	}
	for _, l := range slices.Concat(c.Outputs, c.Bads, c.Constraints, c.Fair) {
		s += fmt.Sprintf("%d\n", l)
	}
	for _, gate := range c.Ands {
		own += 2
		s += string(stdbinary.AppendUvarint(nil, uint64(own-gate[0])))
		s += string(stdbinary.AppendUvarint(nil, uint64(gate[0]-gate[1])))
	}
	for _, name := range c.Names {
		s += fmt.Sprintf("%c%d %s\n", name.Kind, name.At, name.Text)
	}
	return s, api.OK
}

// plainVarint cuts a varint off s.
func plainVarint(s string) (n int, rest string, ok bool) {
	v, size := stdbinary.Uvarint([]byte(s))
	if size < 1 || size > 3 || size > 1 && s[size-1] == 0 {
		return 0, "", false
	}
	return int(v), s[size:], true
}

// plainParse is promise F2 read word by word: it makes a text of layer 5 of s, and has it parsed there. It is for short texts: what it makes must not be too long for layer 5.
func plainParse(s string) (api.Circuit, api.Errno) {
	if len(s) > 20000 {
		return api.Circuit{}, api.ErrLong
	}
	head, rest, ended := strings.Cut(s, "\n")
	numbers, begins := strings.CutPrefix(head, "aig")
	if !ended || !begins {
		return api.Circuit{}, api.ErrHead
	}
	head = "aag" + numbers + "\n"
	if _, err := aag.Parse(head); err == api.ErrHead {
		return api.Circuit{}, err
	}
	text, ok := ascii(head, rest)
	if !ok {
		return api.Circuit{}, api.ErrForm
	}
	return aag.Parse(text)
}

// ascii returns a text of layer 5 that says the same as a first line and what follows in this format, if there are enough lines and varints.
func ascii(head, rest string) (string, bool) {
	var size [9]int
	for i, word := range strings.Fields(head)[1:] {
		size[i], _ = strconv.Atoi(word)
	}
	text := head
	own := 0
	for range size[1] {
		own += 2
		text += fmt.Sprintf("%d\n", own)
	}
	for i := range size[2] + size[3] + size[5] + size[6] + size[8] {
		line, after, ended := strings.Cut(rest, "\n")
		if !ended {
			return "", false
		}
		rest = after
		if i < size[2] {
			own += 2
			line = fmt.Sprintf("%d %s", own, line)
		}
		text += line + "\n"
	}
	for range size[4] {
		own += 2
		a, after, ok := plainVarint(rest)
		if !ok {
			return "", false
		}
		b, after, ok := plainVarint(after)
		if !ok {
			return "", false
		}
		rest = after
		// Layer 5 can't say a negative literal. In a gate 0 is as wrong as that.
		text += fmt.Sprintf("%d %d %d\n", own, max(own-a, 0), max(own-a-b, 0))
	}
	return text + rest, true
}

// answers holds the answer of Parse against an error and, if there is none, a circuit.
func answers(t *testing.T, name, s string, want api.Circuit, err api.Errno) {
	t.Helper()
	c, e := binary.Parse(s)
	if err != api.OK {
		want = api.Circuit{}
	}
	if e != err || !same(c, want) {
		t.Errorf("F2: %s: %d %v, not %d %v", name, e, c, err, want)
	}
}

// parsed is answers, and holds the test's own reading against the same.
func parsed(t *testing.T, name, s string, want api.Circuit, err api.Errno) {
	t.Helper()
	answers(t, name, s, want, err)
	if err != api.OK {
		want = api.Circuit{}
	}
	if d, f := plainParse(s); f != err || !same(d, want) {
		t.Errorf("the test's own reading of %s: %d %v", name, f, d)
	}
}

// refused holds the answer of Parse against an error.
func refused(t *testing.T, s string, err api.Errno) {
	t.Helper()
	parsed(t, short(s), s, api.Circuit{}, err)
}

func short(s string) string {
	if len(s) > 100 {
		return strconv.Quote(s[:100]) + ".."
	}
	return strconv.Quote(s)
}

func printed(t *testing.T, name string, c api.Circuit, want string, err api.Errno) {
	t.Helper()
	if s, e := binary.Print(c); s != want || e != err {
		t.Errorf("F1: %s: %d %q, not %d %q", name, e, s, err, want)
	}
}

func TestPrint(t *testing.T) {
	for _, x := range []struct {
		name string
		c    api.Circuit
		want string
	}{
		{"nothing", api.Circuit{}, "aig 0 0 0 0 0 0 0 0 0\n"},
		{"sample", sample(), sampleText},
		{"inputs", api.Circuit{Inputs: 3}, "aig 3 3 0 0 0 0 0 0 0\n"},
		{"a latch", api.Circuit{Latches: []api.Latch{{Next: 3}}}, "aig 1 0 1 0 0 0 0 0 0\n3\n"},
		{"a latch with Reset 1", api.Circuit{Latches: []api.Latch{{Next: 2, Reset: 1}}}, "aig 1 0 1 0 0 0 0 0 0\n2 1\n"},
		{"a latch with Reset 2", api.Circuit{Latches: []api.Latch{{Next: 1, Reset: 2}}}, "aig 1 0 1 0 0 0 0 0 0\n1 2\n"},
		{"the second latch with Reset 2", api.Circuit{Latches: []api.Latch{{}, {Reset: 2}}}, "aig 2 0 2 0 0 0 0 0 0\n0\n0 4\n"},
		{"a latch with Reset 2 behind inputs", api.Circuit{Inputs: 4, Latches: []api.Latch{{Next: 2, Reset: 2}}}, "aig 5 4 1 0 0 0 0 0 0\n2 10\n"},
		{"a gate", api.Circuit{Inputs: 2, Ands: gates{{4, 2}}}, "aig 3 2 0 0 1 0 0 0 0\n\x02\x02"},
		{"a gate of negations", api.Circuit{Inputs: 2, Ands: gates{{5, 3}}}, "aig 3 2 0 0 1 0 0 0 0\n\x01\x02"},
		{"the least difference", api.Circuit{Inputs: 2, Ands: gates{{4, 3}}}, "aig 3 2 0 0 1 0 0 0 0\n\x02\x01"},
		{"a gate of a gate", api.Circuit{Inputs: 2, Ands: gates{{4, 2}, {7, 5}}}, "aig 4 2 0 0 2 0 0 0 0\n\x02\x02\x01\x02"},
		{"Outputs", api.Circuit{Outputs: []int{0, 1}}, "aig 0 0 0 2 0 0 0 0 0\n0\n1\n"},
		{"Bads", api.Circuit{Bads: []int{1, 0}}, "aig 0 0 0 0 0 2 0 0 0\n1\n0\n"},
		{"Constraints", api.Circuit{Constraints: []int{1}}, "aig 0 0 0 0 0 0 1 0 0\n1\n"},
		{"Fair", api.Circuit{Fair: []int{1}}, "aig 0 0 0 0 0 0 0 0 1\n1\n"},
		{"a name", api.Circuit{Inputs: 11, Names: []api.Name{{Kind: 'i', At: 10, Text: "x"}}}, "aig 11 11 0 0 0 0 0 0 0\ni10 x\n"},
		{"a name behind a gate", api.Circuit{Inputs: 2, Ands: gates{{4, 2}}, Names: []api.Name{{Kind: 'i', At: 1, Text: "x"}}}, "aig 3 2 0 0 1 0 0 0 0\n\x02\x02i1 x\n"},
	} {
		printed(t, x.name, x.c, x.want, api.OK)
		if s, e := plainPrint(x.c); s != x.want || e != api.OK {
			t.Errorf("the test's own printing of %s: %d %q", x.name, e, s)
		}
		parsed(t, x.name, x.want, x.c, api.OK)
	}
}

// TestVarints: as few bytes as possible, the least significant one first.
func TestVarints(t *testing.T) {
	for _, x := range []struct {
		inputs int
		gate   [2]int
		want   string
	}{
		{64, [2]int{4, 2}, "\x7e\x02"},
		{64, [2]int{5, 2}, "\x7d\x03"},
		{65, [2]int{5, 2}, "\x7f\x03"},
		{65, [2]int{4, 2}, "\x80\x01\x02"},
		{66, [2]int{5, 2}, "\x81\x01\x03"},
		{66, [2]int{4, 2}, "\x82\x01\x02"},
		{128, [2]int{4, 2}, "\xfe\x01\x02"},
		{128, [2]int{5, 2}, "\xfd\x01\x03"},
		{129, [2]int{5, 2}, "\xff\x01\x03"},
		{129, [2]int{4, 2}, "\x80\x02\x02"},
		{64, [2]int{128, 2}, "\x02\x7e"},
		{64, [2]int{129, 2}, "\x01\x7f"},
		{65, [2]int{130, 2}, "\x02\x80\x01"},
		{65, [2]int{131, 2}, "\x01\x81\x01"},
		{65, [2]int{131, 3}, "\x01\x80\x01"},
		{1998, [2]int{4, 2}, "\x9a\x1f\x02"},
		{1998, [2]int{3997, 2}, "\x01\x9b\x1f"},
		{1998, [2]int{2000, 1000}, "\xce\x0f\xe8\x07"},
		{6, [2]int{4, 2}, "\x0a\x02"},
		{10, [2]int{12, 2}, "\x0a\x0a"},
		{52, [2]int{105, 6}, "\x01\x63"},
		{54, [2]int{11, 2}, "\x63\x09"},
	} {
		c := api.Circuit{Inputs: x.inputs, Ands: gates{x.gate}}
		want := fmt.Sprintf("aig %d %d 0 0 1 0 0 0 0\n", x.inputs+1, x.inputs) + x.want
		printed(t, fmt.Sprint(x.gate, " over ", x.inputs), c, want, api.OK)
		parsed(t, short(want), want, c, api.OK)
		parsed(t, short(want+"c\n"), want+"c\n", c, api.OK)
		c.Names = []api.Name{{Kind: 'i', Text: "in"}}
		parsed(t, short(want+"i0 in\n"), want+"i0 in\n", c, api.OK)
	}
}

func TestPrintOfCircuitsThatAreNotValid(t *testing.T) {
	for name, with := range map[string]func(c *api.Circuit){
		"negative inputs":      func(c *api.Circuit) { c.Inputs = -1 },
		"least int":            func(c *api.Circuit) { c.Inputs = math.MinInt },
		"2000 inputs":          func(c *api.Circuit) { *c = api.Circuit{Inputs: 2000} },
		"greatest int":         func(c *api.Circuit) { c.Inputs = math.MaxInt },
		"Next":                 func(c *api.Circuit) { c.Latches[0].Next = 18 },
		"Reset":                func(c *api.Circuit) { c.Latches[0].Reset = 3 },
		"negative Reset":       func(c *api.Circuit) { c.Latches[0].Reset = -1 },
		"a literal for Reset":  func(c *api.Circuit) { c.Latches[0].Reset = 6 },
		"a gate":               func(c *api.Circuit) { c.Ands[0] = [2]int{2, 6} },
		"a gate of itself":     func(c *api.Circuit) { c.Ands[0] = [2]int{14, 6} },
		"a gate of a constant": func(c *api.Circuit) { c.Ands[0] = [2]int{6, 1} },
		"a negative literal":   func(c *api.Circuit) { c.Ands[0] = [2]int{6, -2} },
		"equal gates":          func(c *api.Circuit) { c.Ands[1] = c.Ands[0] },
		"Outputs":              func(c *api.Circuit) { c.Outputs[1] = -1 },
		"Bads":                 func(c *api.Circuit) { c.Bads[0] = 18 },
		"Constraints":          func(c *api.Circuit) { c.Constraints[2] = 100 },
		"Fair":                 func(c *api.Circuit) { c.Fair[1] = math.MaxInt },
		"2001 Outputs":         func(c *api.Circuit) { c.Outputs = make([]int, 2001) },
		"an empty text":        func(c *api.Circuit) { c.Names[0].Text = "" },
		"a space in a text":    func(c *api.Circuit) { c.Names[0].Text = "a b" },
		"a line in a text":     func(c *api.Circuit) { c.Names[0].Text = "a\nb" },
		"a long text":          func(c *api.Circuit) { c.Names[0].Text = strings.Repeat("x", 21) },
		"names out of order":   func(c *api.Circuit) { c.Names[0], c.Names[1] = c.Names[1], c.Names[0] },
		"a name of nothing":    func(c *api.Circuit) { c.Names[0].At = 2 },
		"no kind":              func(c *api.Circuit) { c.Names[0].Kind = 0 },
	} {
		c := sample()
		with(&c)
		printed(t, name, c, "", api.ErrArg)
	}
}

// TestPrintOfGreatCircuits: Print has no limit of its own.
func TestPrintOfGreatCircuits(t *testing.T) {
	c := api.Circuit{Inputs: 999}
	for i := range 600 {
		c.Latches = append(c.Latches, api.Latch{Next: 3999 - i, Reset: i % 3})
	}
	for i := range 400 {
		c.Ands = append(c.Ands, [2]int{2*(1600+i) - 1, 2*i + 2})
	}
	want, _ := plainPrint(c)
	printed(t, "a circuit of all variables", c, want, api.OK)
	answers(t, "a circuit of all variables", want, c, api.OK)
	all := make([]int, 2000)
	for i := range all {
		all[i] = 2 * i % 4000
	}
	c.Outputs, c.Bads, c.Constraints, c.Fair = all, all, all, all
	for _, kind := range []byte("ilobcf") {
		for at := range 600 {
			c.Names = append(c.Names, api.Name{Kind: kind, At: at, Text: "name-" + strconv.Itoa(len(c.Names))})
		}
	}
	want, err := plainPrint(c)
	if err != api.OK || len(want) <= 20000 {
		t.Fatalf("%d bytes, error %d", len(want), err)
	}
	printed(t, "a great circuit", c, want, api.OK)
	refused(t, want, api.ErrLong)
}

func TestParse(t *testing.T) {
	inverted := api.Circuit{Latches: []api.Latch{{Next: 3}}}
	one := func(reset int) api.Circuit { return api.Circuit{Latches: []api.Latch{{Next: 3, Reset: reset}}} }
	named := func(names ...api.Name) api.Circuit { return api.Circuit{Inputs: 2, Names: names} }
	gate := api.Circuit{Inputs: 2, Ands: gates{{4, 2}}}
	const two = "aig 2 2 0 0 0\n"
	for _, x := range []struct {
		s    string
		want api.Circuit
	}{
		{"aig 3 2 0 0 1\n\x02\x02", gate},
		{"aig 3 2 0 0 1 0\n\x02\x02", gate},
		{"aig 3 2 0 0 1 0 0\n\x02\x02", gate},
		{"aig 3 2 0 0 1 0 0 0\n\x02\x02", gate},
		{"aig 3 2 0 0 1 0 0 0 0\n\x02\x02", gate},
		{"aig 3 2 0 0 1\n\x02\x02c\n", gate},
		{"aig 3 2 0 0 1\n\x02\x02c\n\x02\x02", gate},
		{"aig 1 0 1 0 0\n3\n", inverted},
		{"aig 1 0 1 0 0\n3 0\n", one(0)},
		{"aig 1 0 1 0 0\n3 1\n", one(1)},
		{"aig 1 0 1 0 0\n3 2\n", one(2)},
		{"aig 1 0 1 0 0\n2 2\n", api.Circuit{Latches: []api.Latch{{Next: 2, Reset: 2}}}},
		{"aig 3 2 1 0 0\n3 6\n", api.Circuit{Inputs: 2, Latches: []api.Latch{{Next: 3, Reset: 2}}}},
		{"aig 2 0 2 0 0\n4 2\n2 4\n", api.Circuit{Latches: []api.Latch{{Next: 4, Reset: 2}, {Next: 2, Reset: 2}}}},
		{"aig 0 0 0 0 0 1\n1\n", api.Circuit{Bads: []int{1}}},
		{"aig 0 0 0 0 0 0 1\n1\n", api.Circuit{Constraints: []int{1}}},
		{"aig 0 0 0 0 0 0 0 0 1\n1\n", api.Circuit{Fair: []int{1}}},
		{"aig 0 0 0 1 0 1 1 0 1\n0\n1\n1\n0\n", api.Circuit{Outputs: []int{0}, Bads: []int{1}, Constraints: []int{1}, Fair: []int{0}}},
		{two, named()},
		{two + "i0 a\ni1 b\n", named(api.Name{Kind: 'i', Text: "a"}, api.Name{Kind: 'i', At: 1, Text: "b"})},
		{two + "i1 c\nc\n", named(api.Name{Kind: 'i', At: 1, Text: "c"})},
		{two + "i0 i0\nc\ni0 i0\n", named(api.Name{Kind: 'i', Text: "i0"})},
		{two + "c\n", named()},
		{two + "c\nc", named()},
		{two + "c\n\n\n", named()},
		{two + "c\nany thing\x00\xff  \r\nat all", named()},
		{"aig 0 0 0 0 0 0 1\n1\nc0 c\n", api.Circuit{Constraints: []int{1}, Names: []api.Name{{Kind: 'c', Text: "c"}}}},
	} {
		parsed(t, strconv.Quote(x.s), x.s, x.want, api.OK)
	}
}

func TestParseOfHeads(t *testing.T) {
	for _, head := range []string{
		"", "aig", "aig ", " aig 0 0 0 0 0", "aig 0", "aig 0 0 0 0", "aig 0 0 0 0 ", "aig 0 0 0 0 0 ", "aig  0 0 0 0 0", "aig 0 0  0 0 0", "aig 0 0 0 0  ",
		"aag 0 0 0 0 0", "AIG 0 0 0 0 0", "aigx 0 0 0 0 0", "aig0 0 0 0 0", "xaig 0 0 0 0 0", "0 0 0 0 0", "0 0 0 0 0 0", "ai 0 0 0 0 0",
		"aig 0 0 0 0 0 0 0 0 0 0", "aig 0 0 0 0 0 0 0 0 0 ", "aig 0 0 0 0 0\r", "aig\t0 0 0 0 0", "aig 0 0 0 0 0\t", "aig 0 0 0 0 0\x00",
		"aig 00 0 0 0 0", "aig 0 0 0 0 00", "aig +0 0 0 0 0", "aig -0 0 0 0 0", "aig 0x0 0 0 0 0", "aig 0_0 0 0 0 0", "aig 0 0 0 x 0", "aig 0 0 0 ٠ 0",
		"aig 1 01 0 0 0", "aig 1 +1 0 0 0", "aig 0 1 0 0 -1", "aig 0 -1 1 0 0", "aig -1 0 0 0 -1", "aig 0 0 0 -1 0",
		"aig 1 0 0 0 0", "aig 0 1 0 0 0", "aig 0 0 1 0 0", "aig 0 0 0 0 1", "aig 2 1 0 0 0", "aig 1 1 1 0 0", "aig 1 1 0 0 1", "aig 3 1 1 0 0", "aig 1 0 0 1 0",
		"aig 0 0 0 0 0 0 0 1", "aig 0 0 0 0 0 0 0 1 0", "aig 0 0 0 0 0 0 0 2000", "aig 0 0 0 0 0 0 0 00",
		"aig 2001 2001 0 0 0", "aig 2001 0 2001 0 0", "aig 2001 0 0 0 2001", "aig 2001 1000 1001 0 0", "aig 0 0 0 2001 0", "aig 0 0 0 0 0 2001", "aig 0 0 0 0 0 0 2001", "aig 0 0 0 0 0 0 0 0 2001",
		"aig 999999 999999 0 0 0", "aig 0 0 0 1000000 0", "aig 0 0 0 0000001 0", "aig 0 0 0 18446744073709551616 0", "aig 18446744073709551616 0 0 0 0", "aig 0 9223372036854775807 1 0 0",
		"aig \xff 0 0 0 0", "\xff", "c",
	} {
		for _, s := range []string{head, head + "\n", head + "\n\x02\x02", head + "\nc\n"} {
			refused(t, s, api.ErrHead)
		}
	}
	for _, s := range []string{"aig 0 0 0 0 0", "aig 0 0 0 0 0 0 0 0 0", "\n", "\n\n", "\naig 0 0 0 0 0\n", strings.Repeat("a", 20000), strings.Repeat("\n", 20000)} {
		refused(t, s, api.ErrHead)
	}
	for _, s := range []string{strings.Repeat("a", 20001), strings.Repeat("\n", 20001), sampleText + strings.Repeat("c\n", 10000)} {
		refused(t, s, api.ErrLong)
	}
}

func TestParseOfWrongLines(t *testing.T) {
	for _, x := range []struct {
		head string
		rest []string
	}{
		{"aig 0 0 0 0 0\n", []string{"\n", "0\n", "x", " ", "\x00", "\x02\x02"}},
		{"aig 1 1 0 0 0\n", []string{"2\n", "2", "\n", "x\n", "0\n", "2 2\n"}},
		{"aig 1 0 1 0 0\n", []string{"", "\n", "3", "3 0", " 3\n", "3 \n", "3  0\n", "2 3\n", "3 3\n", "3 4\n", "3 02\n", "3 00\n", "3 01\n", "3 -1\n", "3 +1\n", "3 x\n", "2 3 2\n", "3 0 0\n", "3 1 1\n", "3 2 2\n", "03\n", "-1\n", "1000000\n", "x\n", "\n3\n", "3\n3\n", "3\r\n", "3 999999\n", "c\n", "\x03"}},
		{"aig 2 1 1 0 0\n", []string{"2\n3\n", "4 3\n", "3 2\n", "3 3\n", "4 3 4\n", "3 6\n", ""}},
		{"aig 2 0 2 0 0\n", []string{"3\n", "3\n3", "3\n3 2\n", "3 4\n3\n", "3 3\n", "3\n3\n3\n"}},
		{"aig 0 0 0 1 0\n", []string{"", "0", "\n", "00\n", "0 0\n", "0 \n", " 0\n", "-1\n", "0\n0\n", "x\n", "1000000\n", "0000000\n", "o0 a\n", "c\n"}},
		{"aig 0 0 0 0 0 1\n", []string{"", "0", "\n", "01\n", "1 1\n", "1\n1\n"}},
		{"aig 0 0 0 0 0 0 1\n", []string{"", "0", "\n", "01\n", "1 1\n", "1\n1\n"}},
		{"aig 0 0 0 0 0 0 0 0 1\n", []string{"", "0", "\n", "01\n", "1 1\n", "1\n1\n"}},
		{"aig 0 0 0 1 0 1 1 0 1\n", []string{"0\n0\n0\n", "0\n0\n0\n0\n0\n", "0\n0\n0\n0", "0 0\n0\n0\n"}},
		{"aig 3 2 0 0 1\n", []string{"", "\x02", "\x02\x02\x02", "\x02\x02\n", "\x02\x02 ", "\x02\x02x", "\x02\x02x\n", "\x02\x02c", "6 4 2\n", "\n\x02\x02", "2 2\n", "2\n2\n"}},
		{"aig 4 2 0 0 2\n", []string{"\x02\x02", "\x02\x02\x02", "\x02\x02\x02\x02\x02", "\x02\x02\n\x02\x02", "\x02\x02c", "\x02\x02c\n\x02\x02"}},
		{"aig 3 2 0 1 1\n", []string{"\x02\x026\n", "6\n", "6\n\x02", "6\x02\x02", "6\n\n\x02\x02", "\x02\x02"}},
		{"aig 3 1 1 0 1\n", []string{"\x02\x02", "3\n", "3\n\x02", "3\x02\x02", "\x02\x023\n"}},
	} {
		for _, rest := range x.rest {
			refused(t, x.head+rest, api.ErrForm)
		}
	}
}

// TestParseOfVarints tries sequences of one to four bytes, each ended by its last byte, in the place of either varint of a gate, whose literal is 602.
func TestParseOfVarints(t *testing.T) {
	const head = "aig 301 300 0 0 1\n"
	errs := map[api.Errno]int{}
	try := func(s string) {
		n := 0
		for i := range len(s) {
			n += int(s[i]) % 128 << (7 * i)
		}
		err := api.OK
		switch {
		case len(s) > 3 || len(s) > 1 && s[len(s)-1] == 0:
			err = api.ErrForm
		case n == 0 || n > 598:
			err = api.ErrRight
		}
		errs[err]++
		parsed(t, strconv.Quote(s)+" first", head+s+"\x02c\n", api.Circuit{Inputs: 300, Ands: gates{{602 - n, 600 - n}}}, err)
		parsed(t, strconv.Quote(s)+" second", head+"\x02"+s+"c\n", api.Circuit{Inputs: 300, Ands: gates{{600, 600 - n}}}, err)
	}
	begins := []string{""}
	for range 4 {
		var longer []string
		for _, begin := range begins {
			refused(t, head+begin, api.ErrForm)
			refused(t, head+"\x02"+begin, api.ErrForm)
			for _, last := range []string{"\x00", "\x01", "\x02", "\x04", "\n", "c", "\x7f"} {
				try(begin + last)
			}
			longer = append(longer, begin+"\x80", begin+"\x81", begin+"\xd6", begin+"\xff")
		}
		begins = longer
	}
	for _, err := range []api.Errno{api.OK, api.ErrForm, api.ErrRight} {
		if errs[err] < 10 {
			t.Errorf("error %d came %d times", err, errs[err])
		}
	}
}

// TestParseOfGreatDifferences: a varint of three bytes is right in its form, but leads below every literal.
func TestParseOfGreatDifferences(t *testing.T) {
	for _, s := range []string{"\x80\x80\x01\x02", "\xff\xff\x7f\x02", "\x02\xff\xff\x7f", "\xff\xff\x7f\xff\xff\x7f", "\x02\x80\x80\x01", "\x06\x02", "\x07\x02", "\x7f\x7f", "\x03\x7f", "\x80\x01\x80\x01"} {
		refused(t, "aig 3 2 0 0 1\n"+s, api.ErrRight)
		refused(t, "aig 3 2 0 0 1\n"+s+"i0 a\n", api.ErrRight)
		refused(t, "aig 3 2 0 0 1\n"+s+"i0\n", api.ErrForm)
		refused(t, "aig 4 2 0 0 2\n"+s, api.ErrForm)
		refused(t, "aig 4 2 0 0 2\n"+s+"\x02\x80\x00", api.ErrForm)
		refused(t, "aig 4 2 0 0 2\n"+s+"\x02\x02", api.ErrRight)
	}
}

func TestParseOfWrongNames(t *testing.T) {
	const head = "aig 3 1 1 1 1 1 1 0 1\n5\n6\n6\n1\n6\n\x02\x02"
	parsed(t, "no names", head, api.Circuit{Inputs: 1, Latches: []api.Latch{{Next: 5}}, Ands: gates{{4, 2}}, Outputs: []int{6}, Bads: []int{6}, Constraints: []int{1}, Fair: []int{6}}, api.OK)
	for _, form := range []string{
		"\n", " \n", "x\n", "i\n", "i0\n", "0\n", "i a\n", "i 0 a\n", "i0", "i0 ", "i0 a", "i0 a b\n", "i0 a \n", "i0  a\n", "i0  \n", " i0 a\n", "  a\n", " 0 a\n", "\ni0 a\n",
		"i00 a\n", "i01 a\n", "i-1 a\n", "i-0 a\n", "i+0 a\n", "i1000000 a\n", "i0000000 a\n", "i0x a\n", "ii0 a\n", "i0\ta\n", "i99999999999999999999 a\n", "\xc3\xa90 a\n",
		"c", "C\n", "c \n", " c\n", "c0\n", "cc\n", "c\r\n", "c a\n", "i0 a\nc", "i0 a\n\nc\n", "i0 a\nl0\nc\n", "i0 a\x00 b\n",
	} {
		refused(t, head+form, api.ErrForm)
	}
	for _, right := range []string{
		"i0 \n", "i1 a\n", "l1 a\n", "o1 a\n", "b1 a\n", "c1 a\n", "f1 a\n", "a0 a\n", "j0 a\n", "I0 a\n", "00 a\n", "10 a\n", "\x000 a\n", "\xff0 a\n", "-1 a\n", "\r0 a\n", "\t0 a\n",
		"i999999 a\n", "i0 " + strings.Repeat("x", 21) + "\n", "i0 " + strings.Repeat("x", 19000) + "\n", "i0 a\ti\n", "i0 a\r\n", "i0 \x7f\n", "i0 \x00\n", "i0 é\n", "i0 \xff\n",
		"i0 a\ni0 b\n", "i0 a\ni0 a\n", "i0 a\nl0 a\n", "l0 a\ni0 b\n", "f0 a\nc0 b\n", "c0 a\nb0 b\n", "i1 a\nc\n",
	} {
		refused(t, head+right, api.ErrRight)
	}
}

// TestParseOfCircuitsThatAreNotValid: the lines and varints are right in their form, but not in what they say.
func TestParseOfCircuitsThatAreNotValid(t *testing.T) {
	for _, s := range []string{
		"aig 1 0 1 0 0\n4\n", "aig 1 0 1 0 0\n5 1\n", "aig 1 0 1 0 0\n999999\n", "aig 0 0 0 1 0\n2\n", "aig 0 0 0 1 0\n999999\n",
		"aig 0 0 0 0 0 1\n2\n", "aig 0 0 0 0 0 0 1\n2\n", "aig 0 0 0 0 0 0 0 0 1\n2\n", "aig 1 1 0 1 0\n4\n",
		"aig 3 2 0 0 1\n\x00\x02", "aig 3 2 0 0 1\n\x02\x00", "aig 3 2 0 0 1\n\x00\x00", "aig 3 2 0 0 1\n\x01\x01", "aig 3 2 0 0 1\n\x02\x03", "aig 3 2 0 0 1\n\x02\x04", "aig 3 2 0 0 1\n\x04\x01", "aig 3 2 0 0 1\n\x03\x01",
		"aig 4 2 0 0 2\n\x02\x02\x04\x02", "aig 4 2 0 0 2\n\x00\x02\x02\x02", "aig 1 0 0 0 1\n\x01\x01", "aig 1 0 0 0 1\n\x02\x00", "aig 4 2 0 0 2\n\x02\x02c\n",
	} {
		refused(t, s, api.ErrRight)
		// What is wrong in its form counts first, wherever it stands.
		refused(t, s+"\n", api.ErrForm)
		refused(t, s+"i0", api.ErrForm)
		refused(t, s+"c\n\n", api.ErrRight)
	}
}

func TestParseAtLimits(t *testing.T) {
	// 1999 variables behind 0 are the most; the first line may have 2000.
	for n, err := range map[int]api.Errno{1999: api.OK, 2000: api.ErrRight} {
		number := strconv.Itoa(n)
		answers(t, number+" inputs", "aig "+number+" "+number+" 0 0 0\n", api.Circuit{Inputs: n}, err)
		answers(t, number+" inputs and a line", "aig "+number+" "+number+" 0 0 0\n2\n", api.Circuit{}, api.ErrForm)
		latches := "aig " + number + " 0 " + number + " 0 0\n"
		answers(t, number+" latches", latches+strings.Repeat("0\n", n), api.Circuit{Latches: make([]api.Latch, n)}, err)
		answers(t, number+" latches but one", latches+strings.Repeat("0\n", n-1), api.Circuit{}, api.ErrForm)
		chain := api.Circuit{Inputs: 2, Ands: gates{{4, 2}}}
		for i := range n - 3 {
			chain.Ands = append(chain.Ands, [2]int{2*i + 6, 2*i + 4})
		}
		text := "aig " + number + " 2 0 0 " + strconv.Itoa(n-2) + "\n"
		answers(t, number+" variables", text+strings.Repeat("\x02\x02", n-2), chain, err)
		answers(t, number+" variables but one", text+strings.Repeat("\x02\x02", n-3), api.Circuit{}, api.ErrForm)
	}
	answers(t, "2000 gates", "aig 2000 0 0 0 2000\n"+strings.Repeat("\x02\x02", 2000), api.Circuit{}, api.ErrRight)
	answers(t, "2000 gates but a byte", "aig 2000 0 0 0 2000\n"+strings.Repeat("\x02", 3999), api.Circuit{}, api.ErrForm)
	zeros := strings.Repeat("0\n", 2000)
	all := make([]int, 2000)
	parsed(t, "2000 Outputs", "aig 0 0 0 2000 0\n"+zeros, api.Circuit{Outputs: all}, api.OK)
	parsed(t, "2000 of all kinds", "aig 0 0 0 2000 0 2000 2000 0 2000\n"+strings.Repeat(zeros, 4), api.Circuit{Outputs: all, Bads: all, Constraints: all, Fair: all}, api.OK)
	refused(t, "aig 0 0 0 2000 0 2000 2000 0 2000\n"+strings.Repeat(zeros, 3), api.ErrForm)
}

// TestParseOfLongTexts: 20000 bytes are not too many, and one more is, whatever they are.
func TestParseOfLongTexts(t *testing.T) {
	padded := func(s string, n int) string { return s + strings.Repeat(" ", n-len(s)) }
	answers(t, "20000 bytes", padded(sampleText+"c\n", 20000), sample(), api.OK)
	for start, err := range map[string]api.Errno{"": api.ErrHead, "aig 0 0 0 0 0\n": api.ErrForm, "aig 0 0 0 0 0\ni0 a\nc\n": api.ErrRight} {
		refused(t, padded(start, 20000), err)
		refused(t, padded(start, 20001), api.ErrLong)
	}
	refused(t, padded(sampleText+"c\n", 20001), api.ErrLong)
	refused(t, padded(sampleText+"c\n", 1000000), api.ErrLong)
	refused(t, "aig 0 0 0 1 0\n0"+strings.Repeat(" 0", 9000)+"\n", api.ErrForm)
	refused(t, "aig 0 0 0 0 0"+strings.Repeat(" 0", 9000)+"\n", api.ErrHead)
	refused(t, "aig 3 2 0 0 1\n"+strings.Repeat("\x80", 19000), api.ErrForm)
}

// TestParseOfBeginnings: wherever a text ends, it lacks something, until its names begin.
func TestParseOfBeginnings(t *testing.T) {
	head, names := len(sampleHead), len(sampleText)-len(sampleNames)
	for n := range len(sampleText) {
		s := sampleText[:n]
		switch {
		case n < head:
			refused(t, s, api.ErrHead)
		case n < names || n > names && s[n-1] != '\n':
			refused(t, s, api.ErrForm)
		default:
			want := sample()
			want.Names = want.Names[:strings.Count(s[names:], "\n")]
			parsed(t, strconv.Quote(s), s, want, api.OK)
		}
	}
}

// TestParseOfChangedBytes puts each byte in the place of each byte of a text, and ahead of it.
func TestParseOfChangedBytes(t *testing.T) {
	const s = "aig 4 1 1 1 2 0 1\n7 4\n6\n1\n\x01\x03\x02\x01i0 a\nc0 c0\nc\n."
	errs := map[api.Errno]int{}
	for at := range len(s) {
		for b := range 256 {
			for _, after := range []int{at, at + 1} {
				text := s[:at] + string([]byte{byte(b)}) + s[after:]
				want, err := plainParse(text)
				parsed(t, strconv.Quote(text), text, want, err)
				errs[err]++
			}
		}
	}
	for _, err := range []api.Errno{api.OK, api.ErrHead, api.ErrForm, api.ErrRight} {
		if errs[err] < 100 {
			t.Errorf("error %d came %d times", err, errs[err])
		}
	}
}

// randomCircuit returns a valid circuit with a few signals of each kind, some of which have names; one of four has so many inputs that a varint may need two bytes.
func randomCircuit(r *rand.Rand) api.Circuit {
	c := api.Circuit{Inputs: r.Intn(4)}
	if r.Intn(4) == 0 {
		c.Inputs += r.Intn(200)
	}
	g := api.Graph{Inputs: c.Inputs + r.Intn(4)}
	latches := g.Inputs - c.Inputs
	for range r.Intn(8) {
		vars := 1 + g.Inputs + len(g.Ands)
		g, _, _ = graph.And(g, r.Intn(2*vars), r.Intn(2*vars))
	}
	c.Ands = g.Ands
	literals := func(n int) []int {
		list := make([]int, n)
		for i := range list {
			list[i] = r.Intn(2 * (1 + g.Inputs + len(g.Ands)))
		}
		return list
	}
	for _, next := range literals(latches) {
		c.Latches = append(c.Latches, api.Latch{Next: next, Reset: r.Intn(3)})
	}
	c.Outputs, c.Bads, c.Constraints, c.Fair = literals(r.Intn(3)), literals(r.Intn(3)), literals(r.Intn(3)), literals(r.Intn(3))
	for i, kind := range []byte("ilobcf") {
		for at := range []int{c.Inputs, latches, len(c.Outputs), len(c.Bads), len(c.Constraints), len(c.Fair)}[i] {
			if r.Intn(2) == 0 {
				text := string(rune('!'+r.Intn(94))) + strconv.Itoa(len(c.Names))
				c.Names = append(c.Names, api.Name{Kind: kind, At: at, Text: text})
			}
		}
	}
	return c
}

// spoiled returns s with a few pieces of other texts laid over it, or put between, or with bytes or lines taken out.
func spoiled(r *rand.Rand, s string) string {
	pieces := []string{" ", "\n", "0", "1", "2", "3", "7", "c\n", "i0 a\n", "i0", "-1", "99", "\x00", "\x01", "\x02", "\x04", "\x80", "\x81\x01", "\x80\x00", "\xff"}
	for range 1 + r.Intn(2) {
		at := r.Intn(len(s) + 1)
		piece := pieces[r.Intn(len(pieces))]
		switch r.Intn(4) {
		case 0:
			s = s[:at] + piece + s[at:]
		case 1:
			s = s[:at] + piece + s[min(at+len(piece), len(s)):]
		case 2:
			s = s[:at] + s[min(at+1+r.Intn(3), len(s)):]
		case 3:
			lines := strings.SplitAfter(s, "\n")
			i, j := r.Intn(len(lines)), r.Intn(len(lines))
			lines[i], lines[j] = lines[j], lines[i]
			s = strings.Join(lines, "")
		}
	}
	return s
}

// TestTheorem is promise F3, and F1 and F2 for many circuits and texts.
func TestTheorem(t *testing.T) {
	r := rand.New(rand.NewSource(6))
	errs := map[api.Errno]int{}
	for range 4000 {
		c := randomCircuit(r)
		want, _ := plainPrint(c)
		printed(t, "a random circuit", c, want, api.OK)
		back, err := binary.Parse(want)
		if err != api.OK || !same(back, c) {
			t.Fatalf("F3: %v: %d %v", c, err, back)
		}
		lines, _ := aag.Print(c)
		if other, err := aag.Parse(lines); err != api.OK || !same(other, back) {
			t.Fatalf("F3: both formats of %v: %d %v", c, err, other)
		}
		text := spoiled(r, want)
		c, err = plainParse(text)
		parsed(t, strconv.Quote(text), text, c, err)
		errs[err]++
		if err != api.OK {
			continue
		}
		again, err := binary.Print(c)
		if back, e := binary.Parse(again); err != api.OK || e != api.OK || !same(back, c) {
			t.Fatalf("F3: %q: %d %d %v", text, err, e, back)
		}
	}
	for _, err := range []api.Errno{api.OK, api.ErrHead, api.ErrForm, api.ErrRight} {
		if errs[err] < 100 {
			t.Errorf("error %d came %d times", err, errs[err])
		}
	}
}

func cloned(c api.Circuit) api.Circuit {
	c.Latches, c.Ands, c.Names = slices.Clone(c.Latches), slices.Clone(c.Ands), slices.Clone(c.Names)
	c.Outputs, c.Bads = slices.Clone(c.Outputs), slices.Clone(c.Bads)
	c.Constraints, c.Fair = slices.Clone(c.Constraints), slices.Clone(c.Fair)
	return c
}

// TestArguments: Print writes neither to its argument nor behind it, and the lists of what Parse returns are apart.
func TestArguments(t *testing.T) {
	whole := sample()
	whole.Latches = append(whole.Latches, api.Latch{Next: -7})
	whole.Ands = append(whole.Ands, [2]int{-7, -8})
	whole.Outputs, whole.Bads = append(whole.Outputs, -9), append(whole.Bads, -9)
	whole.Constraints, whole.Fair = append(whole.Constraints, -9), append(whole.Fair, -9)
	whole.Names = append(whole.Names, api.Name{Kind: 'q', Text: "behind"})
	before := cloned(whole)
	c := whole
	c.Latches, c.Ands, c.Names = c.Latches[:4], c.Ands[:2], c.Names[:8]
	c.Outputs, c.Bads, c.Constraints, c.Fair = c.Outputs[:2], c.Bads[:1], c.Constraints[:3], c.Fair[:2]
	printed(t, "a part", c, sampleText, api.OK)
	printed(t, "the whole", whole, "", api.ErrArg)
	if !reflect.DeepEqual(whole, before) {
		t.Errorf("R3: %v", whole)
	}
	got, _ := binary.Parse(sampleText)
	for _, list := range [][]int{got.Outputs, got.Bads, got.Constraints, got.Fair} {
		_ = append(list, -1, -1, -1, -1)
	}
	if !same(got, sample()) {
		t.Errorf("R3: %v", got)
	}
}

// TestAgain: the result depends on the arguments only, not on earlier calls.
func TestAgain(t *testing.T) {
	for range 3 {
		parsed(t, "sample", sampleText, sample(), api.OK)
		printed(t, "sample", sample(), sampleText, api.OK)
		refused(t, sampleText[:60], api.ErrForm)
		refused(t, "aig", api.ErrHead)
		printed(t, "no circuit", api.Circuit{Inputs: -1}, "", api.ErrArg)
		parsed(t, "nothing", "aig 0 0 0 0 0\n", api.Circuit{}, api.OK)
	}
}
