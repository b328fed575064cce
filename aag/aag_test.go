package aag_test

import (
	"fmt"
	"math"
	"math/rand"
	"reflect"
	"regexp"
	"slices"
	"strconv"
	"strings"
	"testing"

	"parterre/aag"
	"parterre/api"
	"parterre/circuit"
	"parterre/graph"
)

type gates = [][2]int

// sample has two inputs (2, 4), four latches (6, 8, 10, 12) and two gates (14, 16), and signals and names of every kind.
func sample() api.Circuit {
	return api.Circuit{
		Inputs:      2,
		Latches:     []api.Latch{{Next: 7}, {Next: 14, Reset: 1}, {Next: 17, Reset: 2}, {Next: 0, Reset: 2}},
		Ands:        gates{{6, 2}, {15, 5}},
		Outputs:     []int{16, 0},
		Bads:        []int{17},
		Constraints: []int{1, 3, 8},
		Fair:        []int{11, 14},
		Names: []api.Name{
			{Kind: 'i', At: 1, Text: "go"},
			{Kind: 'l', At: 0, Text: "l1"},
			{Kind: 'l', At: 3, Text: "c"},
			{Kind: 'o', At: 0, Text: "out"},
			{Kind: 'b', At: 0, Text: "!"},
			{Kind: 'c', At: 2, Text: "~x~"},
			{Kind: 'f', At: 0, Text: "7"},
			{Kind: 'f', At: 1, Text: "12345678901234567890"},
		},
	}
}

const sampleText = `aag 8 2 4 2 2 1 3 0 2
2
4
6 7
8 14 1
10 17 10
12 0 12
16
0
17
1
3
8
11
14
14 6 2
16 15 5
i1 go
l0 l1
l3 c
o0 out
b0 !
c2 ~x~
f0 7
f1 12345678901234567890
`

// same compares circuits; an empty list may be nil or not.
func same(a, b api.Circuit) bool {
	return a.Inputs == b.Inputs && slices.Equal(a.Latches, b.Latches) && slices.Equal(a.Ands, b.Ands) &&
		slices.Equal(a.Outputs, b.Outputs) && slices.Equal(a.Bads, b.Bads) &&
		slices.Equal(a.Constraints, b.Constraints) && slices.Equal(a.Fair, b.Fair) && slices.Equal(a.Names, b.Names)
}

// plainPrint is promise E1 read word by word.
func plainPrint(c api.Circuit) (string, api.Errno) {
	if !circuit.Right(c) {
		return "", api.ErrArg
	}
	s := fmt.Sprintf("aag %d %d %d %d %d %d %d 0 %d\n", c.Inputs+len(c.Latches)+len(c.Ands), c.Inputs, len(c.Latches), len(c.Outputs), len(c.Ands), len(c.Bads), len(c.Constraints), len(c.Fair))
	own := 0
	for range c.Inputs {
		own += 2
		s += fmt.Sprintf("%d\n", own)
	}
	for _, latch := range c.Latches {
		own += 2
		s += fmt.Sprintf("%d %d%s\n", own, latch.Next, []string{"", " 1", fmt.Sprintf(" %d", own)}[latch.Reset])
	}
	for _, l := range slices.Concat(c.Outputs, c.Bads, c.Constraints, c.Fair) {
		s += fmt.Sprintf("%d\n", l)
	}
	for _, gate := range c.Ands {
		own += 2
		s += fmt.Sprintf("%d %d %d\n", own, gate[0], gate[1])
	}
	for _, name := range c.Names {
		s += fmt.Sprintf("%c%d %s\n", name.Kind, name.At, name.Text)
	}
	return s, api.OK
}

const (
	plainNumber = `(0|[1-9][0-9]{0,5})`
	afterKind   = `\A` + plainNumber + ` [^ ]*\z`
)

var (
	plainHead = regexp.MustCompile(`\Aaag( ` + plainNumber + `){5,9}\z`)
	plainLine = regexp.MustCompile(`\A` + plainNumber + `( ` + plainNumber + `)*\z`)
	plainName = regexp.MustCompile(afterKind)
)

func numbersOf(words []string) []int {
	var list []int
	for _, word := range words {
		n, _ := strconv.Atoi(word)
		list = append(list, n)
	}
	return list
}

// plainParse is promise E2 read word by word: all lines are there at first, and each part takes some of them.
func plainParse(s string) (api.Circuit, api.Errno) {
	if len(s) > 20000 {
		return api.Circuit{}, api.ErrLong
	}
	pieces := strings.Split(s, "\n")
	lines, rest := pieces[:len(pieces)-1], pieces[len(pieces)-1]
	if len(lines) == 0 || !plainHead.MatchString(lines[0]) {
		return api.Circuit{}, api.ErrHead
	}
	head := append(numbersOf(strings.Split(lines[0], " ")[1:]), 0, 0, 0, 0)
	if slices.Max(head) > 2000 || head[0] != head[1]+head[2]+head[4] || head[7] != 0 {
		return api.Circuit{}, api.ErrHead
	}
	lines = lines[1:]
	body := head[0] + head[3] + head[5] + head[6] + head[8]
	if body > len(lines) {
		return api.Circuit{}, api.ErrForm
	}
	c, ok := plainBody(head, lines[:body])
	names, end := lines[body:], slices.Index(lines[body:], "c")
	if end >= 0 {
		names, rest = names[:end], ""
	}
	for _, line := range names {
		if line == "" || line[0] == ' ' || !plainName.MatchString(line[1:]) {
			return api.Circuit{}, api.ErrForm
		}
		at, text, _ := strings.Cut(line[1:], " ")
		c.Names = append(c.Names, api.Name{Kind: line[0], At: numbersOf([]string{at})[0], Text: text})
	}
	if !ok || rest != "" {
		return api.Circuit{}, api.ErrForm
	}
	if !circuit.Right(c) {
		return api.Circuit{}, api.ErrRight
	}
	return c, api.OK
}

func plainBody(head []int, lines []string) (api.Circuit, bool) {
	c := api.Circuit{Inputs: head[1]}
	own := 0
	var all [][]int
	for _, line := range lines {
		if !plainLine.MatchString(line) {
			return c, false
		}
		all = append(all, numbersOf(strings.Split(line, " ")))
	}
	for range head[1] {
		own += 2
		if !slices.Equal(all[0], []int{own}) {
			return c, false
		}
		all = all[1:]
	}
	for range head[2] {
		own += 2
		line := all[0]
		all = all[1:]
		if len(line) == 2 {
			line = append(line, 0)
		}
		reset := 0
		if len(line) == 3 {
			reset = slices.Index([]int{0, 1, own}, line[2])
		}
		if len(line) != 3 || line[0] != own || reset < 0 {
			return c, false
		}
		c.Latches = append(c.Latches, api.Latch{Next: line[1], Reset: reset})
	}
	for i, list := range map[int]*[]int{3: &c.Outputs, 5: &c.Bads, 6: &c.Constraints, 8: &c.Fair} {
		from := 0
		for _, j := range []int{3, 5, 6} {
			if j < i {
				from += head[j]
			}
		}
		for _, line := range all[from : from+head[i]] {
			if len(line) != 1 {
				return c, false
			}
			*list = append(*list, line[0])
		}
	}
	for _, line := range all[len(all)-head[4]:] {
		own += 2
		if len(line) != 3 || line[0] != own {
			return c, false
		}
		c.Ands = append(c.Ands, [2]int{line[1], line[2]})
	}
	return c, true
}

// parsed holds the answer of Parse against an error and, if there is none, a circuit.
func parsed(t *testing.T, name, s string, want api.Circuit, err api.Errno) {
	t.Helper()
	c, e := aag.Parse(s)
	if err != api.OK {
		want = api.Circuit{}
	}
	if e != err || !same(c, want) {
		t.Errorf("E2: %s: %d %v, not %d %v", name, e, c, err, want)
	}
	if d, f := plainParse(s); f != err || !same(d, want) {
		t.Errorf("the test's own reading of %s: %d %v", name, f, d)
	}
}

// refused holds the answer of Parse against an error.
func refused(t *testing.T, s string, err api.Errno) {
	t.Helper()
	name := s
	if len(name) > 100 {
		name = name[:100] + ".."
	}
	parsed(t, strconv.Quote(name), s, api.Circuit{}, err)
}

func printed(t *testing.T, name string, c api.Circuit, want string, err api.Errno) {
	t.Helper()
	if s, e := aag.Print(c); s != want || e != err {
		t.Errorf("E1: %s: %d %q, not %d %q", name, e, s, err, want)
	}
}

func TestPrint(t *testing.T) {
	for _, x := range []struct {
		name string
		c    api.Circuit
		want string
	}{
		{"nothing", api.Circuit{}, "aag 0 0 0 0 0 0 0 0 0\n"},
		{"sample", sample(), sampleText},
		{"inputs", api.Circuit{Inputs: 3}, "aag 3 3 0 0 0 0 0 0 0\n2\n4\n6\n"},
		{"a latch", api.Circuit{Latches: []api.Latch{{Next: 3}}}, "aag 1 0 1 0 0 0 0 0 0\n2 3\n"},
		{"a latch with Reset 1", api.Circuit{Latches: []api.Latch{{Next: 2, Reset: 1}}}, "aag 1 0 1 0 0 0 0 0 0\n2 2 1\n"},
		{"a latch with Reset 2", api.Circuit{Latches: []api.Latch{{Next: 1, Reset: 2}}}, "aag 1 0 1 0 0 0 0 0 0\n2 1 2\n"},
		{"the second latch with Reset 2", api.Circuit{Latches: []api.Latch{{}, {Reset: 2}}}, "aag 2 0 2 0 0 0 0 0 0\n2 0\n4 0 4\n"},
		{"a gate", api.Circuit{Inputs: 2, Ands: gates{{4, 2}}}, "aag 3 2 0 0 1 0 0 0 0\n2\n4\n6 4 2\n"},
		{"Outputs", api.Circuit{Outputs: []int{0, 1}}, "aag 0 0 0 2 0 0 0 0 0\n0\n1\n"},
		{"Bads", api.Circuit{Bads: []int{1, 0}}, "aag 0 0 0 0 0 2 0 0 0\n1\n0\n"},
		{"Constraints", api.Circuit{Constraints: []int{1}}, "aag 0 0 0 0 0 0 1 0 0\n1\n"},
		{"Fair", api.Circuit{Fair: []int{1}}, "aag 0 0 0 0 0 0 0 0 1\n1\n"},
		{"a name", api.Circuit{Inputs: 11, Names: []api.Name{{Kind: 'i', At: 10, Text: "x"}}}, "aag 11 11 0 0 0 0 0 0 0\n2\n4\n6\n8\n10\n12\n14\n16\n18\n20\n22\ni10 x\n"},
	} {
		printed(t, x.name, x.c, x.want, api.OK)
		if s, e := plainPrint(x.c); s != x.want || e != api.OK {
			t.Errorf("the test's own printing of %s: %d %q", x.name, e, s)
		}
		parsed(t, x.name, x.want, x.c, api.OK)
	}
}

func TestPrintOfCircuitsThatAreNotValid(t *testing.T) {
	for name, with := range map[string]func(c *api.Circuit){
		"negative inputs":     func(c *api.Circuit) { c.Inputs = -1 },
		"least int":           func(c *api.Circuit) { c.Inputs = math.MinInt },
		"2000 inputs":         func(c *api.Circuit) { *c = api.Circuit{Inputs: 2000} },
		"greatest int":        func(c *api.Circuit) { c.Inputs = math.MaxInt },
		"Next":                func(c *api.Circuit) { c.Latches[0].Next = 18 },
		"Reset":               func(c *api.Circuit) { c.Latches[0].Reset = 3 },
		"negative Reset":      func(c *api.Circuit) { c.Latches[0].Reset = -1 },
		"a literal for Reset": func(c *api.Circuit) { c.Latches[0].Reset = 6 },
		"a gate":              func(c *api.Circuit) { c.Ands[0] = [2]int{2, 6} },
		"Outputs":             func(c *api.Circuit) { c.Outputs[1] = -1 },
		"Bads":                func(c *api.Circuit) { c.Bads[0] = 18 },
		"Constraints":         func(c *api.Circuit) { c.Constraints[2] = 100 },
		"Fair":                func(c *api.Circuit) { c.Fair[1] = math.MaxInt },
		"2001 Outputs":        func(c *api.Circuit) { c.Outputs = make([]int, 2001) },
		"an empty text":       func(c *api.Circuit) { c.Names[0].Text = "" },
		"a space in a text":   func(c *api.Circuit) { c.Names[0].Text = "a b" },
		"a line in a text":    func(c *api.Circuit) { c.Names[0].Text = "a\nb" },
		"a long text":         func(c *api.Circuit) { c.Names[0].Text = strings.Repeat("x", 21) },
		"names out of order":  func(c *api.Circuit) { c.Names[0], c.Names[1] = c.Names[1], c.Names[0] },
		"a name of nothing":   func(c *api.Circuit) { c.Names[0].At = 2 },
		"no kind":             func(c *api.Circuit) { c.Names[0].Kind = 0 },
	} {
		c := sample()
		with(&c)
		printed(t, name, c, "", api.ErrArg)
	}
}

// TestPrintOfGreatCircuits: Print has no limit of its own.
func TestPrintOfGreatCircuits(t *testing.T) {
	c := api.Circuit{Inputs: 999}
	for i := range 600 {
		c.Latches = append(c.Latches, api.Latch{Next: 3999 - i, Reset: i % 3})
	}
	for i := range 400 {
		c.Ands = append(c.Ands, [2]int{2*(1600+i) - 1, 2*i + 2})
	}
	all := make([]int, 2000)
	for i := range all {
		all[i] = 2 * i % 4000
	}
	c.Outputs, c.Bads, c.Constraints, c.Fair = all, all, all, all
	for _, kind := range []byte("ilobcf") {
		for at := range 600 {
			c.Names = append(c.Names, api.Name{Kind: kind, At: at, Text: "name-" + strconv.Itoa(len(c.Names))})
		}
	}
	want, err := plainPrint(c)
	if err != api.OK || len(want) <= 20000 {
		t.Fatalf("%d bytes, error %d", len(want), err)
	}
	printed(t, "a great circuit", c, want, api.OK)
	refused(t, want, api.ErrLong)
}

func TestParse(t *testing.T) {
	inverted := api.Circuit{Latches: []api.Latch{{Next: 3}}}
	one := func(reset int) api.Circuit { return api.Circuit{Latches: []api.Latch{{Next: 3, Reset: reset}}} }
	named := func(names ...api.Name) api.Circuit { return api.Circuit{Inputs: 2, Names: names} }
	const two = "aag 2 2 0 0 0\n2\n4\n"
	for _, x := range []struct {
		s    string
		want api.Circuit
	}{
		{"aag 1 0 1 0 0\n2 3\n", inverted},
		{"aag 1 0 1 0 0 0\n2 3\n", inverted},
		{"aag 1 0 1 0 0 0 0\n2 3\n", inverted},
		{"aag 1 0 1 0 0 0 0 0\n2 3\n", inverted},
		{"aag 1 0 1 0 0 0 0 0 0\n2 3\n", inverted},
		{"aag 1 0 1 0 0\n2 3 0\n", one(0)},
		{"aag 1 0 1 0 0\n2 3 1\n", one(1)},
		{"aag 1 0 1 0 0\n2 3 2\n", one(2)},
		{"aag 0 0 0 0 0 1\n1\n", api.Circuit{Bads: []int{1}}},
		{"aag 0 0 0 0 0 0 1\n1\n", api.Circuit{Constraints: []int{1}}},
		{"aag 0 0 0 0 0 0 0 0 1\n1\n", api.Circuit{Fair: []int{1}}},
		{"aag 0 0 0 1 0 1 1 0 1\n0\n1\n1\n0\n", api.Circuit{Outputs: []int{0}, Bads: []int{1}, Constraints: []int{1}, Fair: []int{0}}},
		{two + "i0 a\ni1 b\n", named(api.Name{Kind: 'i', Text: "a"}, api.Name{Kind: 'i', At: 1, Text: "b"})},
		{two + "i1 c\nc\n", named(api.Name{Kind: 'i', At: 1, Text: "c"})},
		{two + "i0 i0\nc\ni0 i0\n", named(api.Name{Kind: 'i', Text: "i0"})},
		{two + "c\n", named()},
		{two + "c\nc", named()},
		{two + "c\n\n\n", named()},
		{two + "c\nany thing\x00\xff  \r\nat all", named()},
		{"aag 0 0 0 0 0 0 1\n1\nc0 c\n", api.Circuit{Constraints: []int{1}, Names: []api.Name{{Kind: 'c', Text: "c"}}}},
	} {
		parsed(t, strconv.Quote(x.s), x.s, x.want, api.OK)
	}
}

func TestParseOfHeads(t *testing.T) {
	for _, head := range []string{
		"", "aag", "aag ", " aag 0 0 0 0 0", "aag 0", "aag 0 0 0 0", "aag 0 0 0 0 ", "aag 0 0 0 0 0 ", "aag  0 0 0 0 0", "aag 0 0  0 0 0", "aag 0 0 0 0  ",
		"aig 0 0 0 0 0", "AAG 0 0 0 0 0", "aagx 0 0 0 0 0", "aag0 0 0 0 0", "xaag 0 0 0 0 0", "0 0 0 0 0", "0 0 0 0 0 0",
		"aag 0 0 0 0 0 0 0 0 0 0", "aag 0 0 0 0 0 0 0 0 0 ", "aag 0 0 0 0 0\r", "aag\t0 0 0 0 0", "aag 0 0 0 0 0\t", "aag 0 0 0 0 0\x00",
		"aag 00 0 0 0 0", "aag 0 0 0 0 00", "aag 0 0 0 00 0", "aag +0 0 0 0 0", "aag -0 0 0 0 0", "aag 0 0 0 0 -0", "aag 0x0 0 0 0 0", "aag 0_0 0 0 0 0", "aag 0 0 0 x 0", "aag 0 0 0 0 . 0", "aag 0 0 0 ٠ 0",
		"aag 1 01 0 0 0", "aag 1 +1 0 0 0", "aag 0 1 0 0 -1", "aag 0 -1 1 0 0", "aag -1 0 0 0 -1", "aag 0 0 0 -1 0",
		"aag 1 0 0 0 0", "aag 0 1 0 0 0", "aag 0 0 1 0 0", "aag 0 0 0 0 1", "aag 2 1 0 0 0", "aag 1 1 1 0 0", "aag 1 1 0 0 1", "aag 3 1 1 0 0", "aag 1 0 0 1 0",
		"aag 0 0 0 0 0 0 0 1", "aag 0 0 0 0 0 0 0 1 0", "aag 0 0 0 0 0 0 0 2000", "aag 0 0 0 0 0 0 0 00",
		"aag 2001 2001 0 0 0", "aag 2001 0 2001 0 0", "aag 2001 0 0 0 2001", "aag 2001 1000 1001 0 0", "aag 0 0 0 2001 0", "aag 0 0 0 0 0 2001", "aag 0 0 0 0 0 0 2001", "aag 0 0 0 0 0 0 0 0 2001",
		"aag 999999 999999 0 0 0", "aag 0 0 0 1000000 0", "aag 0 0 0 0000001 0", "aag 0 0 0 18446744073709551616 0", "aag 0 0 0 9223372036854775808 0", "aag 18446744073709551616 0 0 0 0", "aag 0 9223372036854775807 1 0 0",
		"aag \xff 0 0 0 0", "\xff", "c",
	} {
		for _, s := range []string{head, head + "\n", head + "\n2\n", head + "\nc\n"} {
			refused(t, s, api.ErrHead)
		}
	}
	for _, s := range []string{"aag 0 0 0 0 0", "aag 0 0 0 0 0 0 0 0 0", "\n", "\n\n", "\naag 0 0 0 0 0\n", strings.Repeat("a", 20000), strings.Repeat("\n", 20000)} {
		refused(t, s, api.ErrHead)
	}
	for _, s := range []string{strings.Repeat("a", 20001), strings.Repeat("\n", 20001), sampleText + strings.Repeat("c\n", 10000)} {
		refused(t, s, api.ErrLong)
	}
}

func TestParseOfWrongLines(t *testing.T) {
	for _, x := range []struct {
		head string
		rest []string
	}{
		{"aag 1 1 0 0 0\n", []string{"", "2", "4\n", "3\n", "0\n", "1\n", "02\n", "+2\n", "2 \n", " 2\n", "2 2\n", "2\r\n", "\n", "\n2\n", "x\n", "2\n2\n", "2\n4\n", "2\t\n", "i0 a\n2\n", "c\n", "c\n2\n", "1000000\n", "2\n\n", "2\n \n"}},
		{"aag 2 2 0 0 0\n", []string{"2\n", "2\n2\n", "4\n2\n", "2 4\n", "2\n4", "2\n6\n", "2\n\n4\n", "2\nc\n4\n"}},
		{"aag 1 0 1 0 0\n", []string{"", "2\n", "3\n", "2 \n", "2  3\n", " 2 3\n", "2 3 \n", "2 3 3\n", "2 3 4\n", "2 3 02\n", "2 3 00\n", "2 3 01\n", "2 3 -1\n", "2 3 +1\n", "2 3 x\n", "2 3 0 0\n", "2 3 1 1\n", "2 3 2 2\n", "3 3\n", "4 3\n", "1 3\n", "0 3\n", "2 03\n", "2 -1\n", "2 1000000\n", "2 3", "2 3 0", "2 x\n", "2\n3\n", "\n2 3\n", "3 2 2\n", "2 3 999999\n"}},
		{"aag 2 1 1 0 0\n", []string{"2\n2 3\n", "4 3\n2\n", "2\n4 3 2\n", "2\n4 3 3\n", "2\n4\n", "2\n6 3\n", "2\n"}},
		{"aag 2 0 2 0 0\n", []string{"2 3\n2 3\n", "4 3\n2 3\n", "2 3\n4 3 2\n", "2 3 4\n4 3\n", "2 3\n", "2 3\n4 3"}},
		{"aag 0 0 0 1 0\n", []string{"", "0", "\n", "00\n", "0 0\n", "0 \n", " 0\n", "-1\n", "0\n0\n", "x\n", "1000000\n", "0000000\n", "o0 a\n", "c\n"}},
		{"aag 0 0 0 0 0 1\n", []string{"", "0", "\n", "01\n", "1 1\n", "1\n1\n"}},
		{"aag 0 0 0 0 0 0 1\n", []string{"", "0", "\n", "01\n", "1 1\n", "1\n1\n"}},
		{"aag 0 0 0 0 0 0 0 0 1\n", []string{"", "0", "\n", "01\n", "1 1\n", "1\n1\n"}},
		{"aag 0 0 0 1 0 1 1 0 1\n", []string{"0\n0\n0\n", "0\n0\n0\n0\n0\n", "0\n0\n0\n0", "0 0\n0\n0\n"}},
		{"aag 3 2 0 0 1\n2\n4\n", []string{"", "6\n", "6 4\n", "6 4 2", "6 4 2 2\n", "6 4 2 \n", "6 4  2\n", " 6 4 2\n", "4 4 2\n", "7 4 2\n", "8 4 2\n", "06 4 2\n", "6 04 2\n", "6 4 02\n", "6 -4 2\n", "6 4 -2\n", "6 4 x\n", "6 1000000 2\n", "6 4 1000000\n", "6\n4\n2\n", "\n6 4 2\n"}},
		{"aag 4 2 0 0 2\n2\n4\n", []string{"6 4 2\n", "6 4 2\n6 5 2\n", "8 4 2\n6 5 2\n", "6 4 2\n10 5 2\n"}},
		{"aag 3 2 0 1 1\n2\n4\n", []string{"6 4 2\n6\n", "6\n", "6\n6 4\n"}},
	} {
		for _, rest := range x.rest {
			refused(t, x.head+rest, api.ErrForm)
		}
	}
}

func TestParseOfWrongNames(t *testing.T) {
	const head = "aag 3 1 1 1 1 1 1 0 1\n2\n4 5\n6\n6\n1\n6\n6 4 2\n"
	for _, form := range []string{
		"\n", " \n", "x\n", "i\n", "i0\n", "0\n", "i a\n", "i 0 a\n", "i0", "i0 ", "i0 a", "i0 a b\n", "i0 a \n", "i0  a\n", "i0  \n", " i0 a\n", "  a\n", " 0 a\n", "\ni0 a\n",
		"i00 a\n", "i01 a\n", "i-1 a\n", "i-0 a\n", "i+0 a\n", "i1000000 a\n", "i0000000 a\n", "i0x a\n", "ii0 a\n", "i0\ta\n", "i99999999999999999999 a\n", "\xc3\xa90 a\n",
		"c", "C\n", "c \n", " c\n", "c0\n", "cc\n", "c\r\n", "c a\n", "i0 a\nc", "i0 a\n\nc\n", "i0 a\nl0\nc\n", "i0 a\x00 b\n",
	} {
		refused(t, head+form, api.ErrForm)
	}
	for _, right := range []string{
		"i0 \n", "i1 a\n", "l1 a\n", "o1 a\n", "b1 a\n", "c1 a\n", "f1 a\n", "a0 a\n", "j0 a\n", "I0 a\n", "00 a\n", "10 a\n", "\x000 a\n", "\xff0 a\n", "-1 a\n", "\r0 a\n", "\t0 a\n",
		"i999999 a\n", "i0 " + strings.Repeat("x", 21) + "\n", "i0 " + strings.Repeat("x", 19000) + "\n", "i0 a\ti\n", "i0 a\r\n", "i0 \x7f\n", "i0 \x00\n", "i0 é\n", "i0 \xff\n",
		"i0 a\ni0 b\n", "i0 a\ni0 a\n", "i0 a\nl0 a\n", "l0 a\ni0 b\n", "f0 a\nc0 b\n", "c0 a\nb0 b\n", "i1 a\nc\n",
	} {
		refused(t, head+right, api.ErrRight)
	}
}

// TestParseOfCircuitsThatAreNotValid: the lines are right in their form, but not in what they say.
func TestParseOfCircuitsThatAreNotValid(t *testing.T) {
	for _, s := range []string{
		"aag 1 0 1 0 0\n2 4\n", "aag 1 0 1 0 0\n2 5 1\n", "aag 1 0 1 0 0\n2 999999\n", "aag 0 0 0 1 0\n2\n", "aag 0 0 0 1 0\n999999\n",
		"aag 0 0 0 0 0 1\n2\n", "aag 0 0 0 0 0 0 1\n2\n", "aag 0 0 0 0 0 0 0 0 1\n2\n", "aag 1 1 0 1 0\n2\n4\n",
		"aag 3 2 0 0 1\n2\n4\n6 2 4\n", "aag 3 2 0 0 1\n2\n4\n6 4 4\n", "aag 3 2 0 0 1\n2\n4\n6 4 5\n", "aag 3 2 0 0 1\n2\n4\n6 6 2\n", "aag 3 2 0 0 1\n2\n4\n6 8 2\n", "aag 3 2 0 0 1\n2\n4\n6 4 1\n", "aag 3 2 0 0 1\n2\n4\n6 4 0\n", "aag 3 2 0 0 1\n2\n4\n6 999999 2\n",
		"aag 4 2 0 0 2\n2\n4\n6 4 2\n8 4 2\n", "aag 1 0 0 0 1\n2 0 0\n",
	} {
		refused(t, s, api.ErrRight)
		// What is wrong in its form counts first, wherever it stands.
		refused(t, s+"\n", api.ErrForm)
		refused(t, s+"i0", api.ErrForm)
		refused(t, s+"c\n\n", api.ErrRight)
	}
}

// list returns lines with the literals of so many variables, from a place on.
func list(from, n int, more string) string {
	s := ""
	for i := range n {
		s += strconv.Itoa(2*(from+i)+2) + more + "\n"
	}
	return s
}

func TestParseAtLimits(t *testing.T) {
	// 1999 variables behind 0 are the most; the first line may have 2000.
	for n, err := range map[int]api.Errno{1999: api.OK, 2000: api.ErrRight} {
		number := strconv.Itoa(n)
		parsed(t, number+" inputs", "aag "+number+" "+number+" 0 0 0\n"+list(0, n, ""), api.Circuit{Inputs: n}, err)
		parsed(t, number+" latches", "aag "+number+" 0 "+number+" 0 0\n"+list(0, n, " 0"), api.Circuit{Latches: make([]api.Latch, n)}, err)
		refused(t, "aag "+number+" "+number+" 0 0 0\n"+list(0, n-1, ""), api.ErrForm)
		refused(t, "aag "+number+" "+number+" 0 0 0\n"+list(0, n, "")+"4002\n", api.ErrForm)
	}
	refused(t, "aag 2000 0 0 0 2000\n"+list(0, 2000, " 0 0"), api.ErrRight)
	refused(t, "aag 2000 0 0 0 2000\n"+list(0, 1999, " 0 0"), api.ErrForm)
	zeros := strings.Repeat("0\n", 2000)
	all := make([]int, 2000)
	parsed(t, "2000 Outputs", "aag 0 0 0 2000 0\n"+zeros, api.Circuit{Outputs: all}, api.OK)
	parsed(t, "2000 of all kinds", "aag 0 0 0 2000 0 2000 2000 0 2000\n"+strings.Repeat(zeros, 4), api.Circuit{Outputs: all, Bads: all, Constraints: all, Fair: all}, api.OK)
	refused(t, "aag 0 0 0 2000 0 2000 2000 0 2000\n"+strings.Repeat(zeros, 3), api.ErrForm)
}

// TestParseOfLongTexts: 20000 bytes are not too many, and one more is, whatever they are.
func TestParseOfLongTexts(t *testing.T) {
	padded := func(s string, n int) string { return s + strings.Repeat(" ", n-len(s)) }
	parsed(t, "20000 bytes", padded(sampleText+"c\n", 20000), sample(), api.OK)
	for start, err := range map[string]api.Errno{"": api.ErrHead, "aag 0 0 0 0 0\n": api.ErrForm, "aag 0 0 0 0 0\ni0 a\nc\n": api.ErrRight} {
		refused(t, padded(start, 20000), err)
		refused(t, padded(start, 20001), api.ErrLong)
	}
	refused(t, padded(sampleText+"c\n", 20001), api.ErrLong)
	refused(t, padded(sampleText+"c\n", 1000000), api.ErrLong)
	refused(t, "aag 0 0 0 1 0\n0"+strings.Repeat(" 0", 9000)+"\n", api.ErrForm)
	refused(t, "aag 0 0 0 0 0"+strings.Repeat(" 0", 9000)+"\n", api.ErrHead)
	refused(t, "aag 0 0 0 1 0\n"+strings.Repeat("1", 19000)+"\n", api.ErrForm)
}

// TestParseOfBeginnings: wherever a text ends, it lacks something, until its names begin.
func TestParseOfBeginnings(t *testing.T) {
	names := strings.Index(sampleText, "i1 ")
	head := strings.Index(sampleText, "\n") + 1
	for n := range len(sampleText) {
		s := sampleText[:n]
		switch {
		case n < head:
			refused(t, s, api.ErrHead)
		case n < names || s[n-1] != '\n':
			refused(t, s, api.ErrForm)
		default:
			want := sample()
			want.Names = want.Names[:strings.Count(s[names:], "\n")]
			parsed(t, strconv.Quote(s), s, want, api.OK)
		}
	}
}

// TestParseOfChangedBytes puts each byte in the place of each byte of a text, and ahead of it.
func TestParseOfChangedBytes(t *testing.T) {
	const s = "aag 3 1 1 1 1 0 1\n2\n4 7 4\n6\n1\n6 5 2\ni0 a\nc0 c0\nc\n."
	errs := map[api.Errno]int{}
	for at := range s {
		for b := range 256 {
			for _, after := range []int{at, at + 1} {
				text := s[:at] + string([]byte{byte(b)}) + s[after:]
				want, err := plainParse(text)
				parsed(t, strconv.Quote(text), text, want, err)
				errs[err]++
			}
		}
	}
	for _, err := range []api.Errno{api.OK, api.ErrHead, api.ErrForm, api.ErrRight} {
		if errs[err] < 100 {
			t.Errorf("error %d came %d times", err, errs[err])
		}
	}
}

// randomCircuit returns a valid circuit with a few signals of each kind, some of which have names.
func randomCircuit(r *rand.Rand) api.Circuit {
	c := api.Circuit{Inputs: r.Intn(4)}
	g := api.Graph{Inputs: c.Inputs + r.Intn(4)}
	latches := g.Inputs - c.Inputs
	for range r.Intn(8) {
		vars := 1 + g.Inputs + len(g.Ands)
		g, _, _ = graph.And(g, r.Intn(2*vars), r.Intn(2*vars))
	}
	c.Ands = g.Ands
	literals := func(n int) []int {
		list := make([]int, n)
		for i := range list {
			list[i] = r.Intn(2 * (1 + g.Inputs + len(g.Ands)))
		}
		return list
	}
	for _, next := range literals(latches) {
		c.Latches = append(c.Latches, api.Latch{Next: next, Reset: r.Intn(3)})
	}
	c.Outputs, c.Bads, c.Constraints, c.Fair = literals(r.Intn(3)), literals(r.Intn(3)), literals(r.Intn(3)), literals(r.Intn(3))
	for i, kind := range []byte("ilobcf") {
		for at := range []int{c.Inputs, latches, len(c.Outputs), len(c.Bads), len(c.Constraints), len(c.Fair)}[i] {
			if r.Intn(2) == 0 {
				text := string(rune('!'+r.Intn(94))) + strconv.Itoa(len(c.Names))
				c.Names = append(c.Names, api.Name{Kind: kind, At: at, Text: text})
			}
		}
	}
	return c
}

// spoiled returns s with a few pieces of other texts laid over it, or put between, or with bytes or lines taken out.
func spoiled(r *rand.Rand, s string) string {
	pieces := []string{" ", "\n", "0", "1", "2", "3", "7", "c\n", "i0 a\n", "i0", "-1", "99", "\r", "x"}
	for range 1 + r.Intn(2) {
		at := r.Intn(len(s) + 1)
		piece := pieces[r.Intn(len(pieces))]
		switch r.Intn(4) {
		case 0:
			s = s[:at] + piece + s[at:]
		case 1:
			s = s[:at] + piece + s[min(at+len(piece), len(s)):]
		case 2:
			s = s[:at] + s[min(at+1+r.Intn(3), len(s)):]
		case 3:
			lines := strings.SplitAfter(s, "\n")
			i, j := r.Intn(len(lines)), r.Intn(len(lines))
			lines[i], lines[j] = lines[j], lines[i]
			s = strings.Join(lines, "")
		}
	}
	return s
}

// TestTheorem is promise E3, and E1 and E2 for many circuits and texts.
func TestTheorem(t *testing.T) {
	r := rand.New(rand.NewSource(5))
	errs := map[api.Errno]int{}
	for range 4000 {
		c := randomCircuit(r)
		want, _ := plainPrint(c)
		printed(t, "a random circuit", c, want, api.OK)
		if back, err := aag.Parse(want); err != api.OK || !same(back, c) {
			t.Fatalf("E3: %v: %d %v", c, err, back)
		}
		text := spoiled(r, want)
		c, err := plainParse(text)
		parsed(t, strconv.Quote(text), text, c, err)
		errs[err]++
		if err != api.OK {
			continue
		}
		again, err := aag.Print(c)
		if back, e := aag.Parse(again); err != api.OK || e != api.OK || !same(back, c) {
			t.Fatalf("E3: %q: %d %d %v", text, err, e, back)
		}
	}
	for _, err := range []api.Errno{api.OK, api.ErrHead, api.ErrForm, api.ErrRight} {
		if errs[err] < 100 {
			t.Errorf("error %d came %d times", err, errs[err])
		}
	}
}

func cloned(c api.Circuit) api.Circuit {
	c.Latches, c.Ands, c.Names = slices.Clone(c.Latches), slices.Clone(c.Ands), slices.Clone(c.Names)
	c.Outputs, c.Bads = slices.Clone(c.Outputs), slices.Clone(c.Bads)
	c.Constraints, c.Fair = slices.Clone(c.Constraints), slices.Clone(c.Fair)
	return c
}

// TestArguments: Print writes neither to its argument nor behind it, and the lists of what Parse returns are apart.
func TestArguments(t *testing.T) {
	whole := sample()
	whole.Latches = append(whole.Latches, api.Latch{Next: -7})
	whole.Ands = append(whole.Ands, [2]int{-7, -8})
	whole.Outputs, whole.Bads = append(whole.Outputs, -9), append(whole.Bads, -9)
	whole.Constraints, whole.Fair = append(whole.Constraints, -9), append(whole.Fair, -9)
	whole.Names = append(whole.Names, api.Name{Kind: 'q', Text: "behind"})
	before := cloned(whole)
	c := whole
	c.Latches, c.Ands, c.Names = c.Latches[:4], c.Ands[:2], c.Names[:8]
	c.Outputs, c.Bads, c.Constraints, c.Fair = c.Outputs[:2], c.Bads[:1], c.Constraints[:3], c.Fair[:2]
	printed(t, "a part", c, sampleText, api.OK)
	printed(t, "the whole", whole, "", api.ErrArg)
	if !reflect.DeepEqual(whole, before) {
		t.Errorf("R3: %v", whole)
	}
	got, _ := aag.Parse(sampleText)
	for _, list := range [][]int{got.Outputs, got.Bads, got.Constraints, got.Fair} {
		_ = append(list, -1, -1, -1, -1)
	}
	if !same(got, sample()) {
		t.Errorf("R3: %v", got)
	}
}

// TestAgain: the result depends on the arguments only, not on earlier calls.
func TestAgain(t *testing.T) {
	for range 3 {
		parsed(t, "sample", sampleText, sample(), api.OK)
		printed(t, "sample", sample(), sampleText, api.OK)
		refused(t, sampleText[:100], api.ErrForm)
		refused(t, "aag", api.ErrHead)
		printed(t, "no circuit", api.Circuit{Inputs: -1}, "", api.ErrArg)
		parsed(t, "nothing", "aag 0 0 0 0 0\n", api.Circuit{}, api.OK)
	}
}
