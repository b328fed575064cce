package base_test

import (
	"fmt"
	"math"
	"math/rand"
	"reflect"
	"slices"
	"strconv"
	"strings"
	"testing"

	"parterre/api"
	"parterre/base"
	"parterre/circuit"
	"parterre/formula"
)

// texts holds the table of promise K2, a formula in prefix notation for each kind: T is True, F False, a and b are the subformulas, and X, U, G are EX, EU, EG.
var texts = map[int]string{
	1: "!T", 2: "T", 4: "!a", 5: "&ab", 6: "!&!a!b", 7: "!&a!b", 8: "&!&a!b!&b!a",
	9: "Xa", 10: "!X!a", 11: "UTa", 12: "!G!a", 13: "Ga", 14: "!UT!a",
	15: "Uab", 16: "&!U!b&!a!b!G!b", 17: "!&!Gb!Ub&ab", 18: "!U!a!b",
}

var letters = map[byte]int{'F': 1, 'T': 2, '!': 4, '&': 5, 'X': 9, 'G': 13, 'U': 15}

// number holds how many subformulas each kind has.
var number = [...]int{1: 0, 2: 0, 3: 0, 4: 1, 5: 2, 6: 2, 7: 2, 8: 2, 9: 1, 10: 1, 11: 1, 12: 1, 13: 1, 14: 1, 15: 2, 16: 2, 17: 2, 18: 2}

func of(kind int, kids ...api.Formula) api.Formula { return api.Formula{Kind: kind, Kids: kids} }

func lit(l int) api.Formula { return api.Formula{Kind: 3, Lit: l} }

func name(s string) api.Formula { return api.Formula{Kind: 3, Name: s} }

// read returns the formula of a text of that table, and what is behind it.
func read(text string, a, b api.Formula) (api.Formula, string) {
	first, rest := text[0], text[1:]
	switch first {
	case 'a':
		return a, rest
	case 'b':
		return b, rest
	}
	f := of(letters[first])
	for range number[f.Kind] {
		var kid api.Formula
		kid, rest = read(rest, a, b)
		f.Kids = append(f.Kids, kid)
	}
	return f, rest
}

// plainHeight is the chapter's word 'resolved' read word by word, for formulas that are not too big to be gone through. It returns how many levels there are.
func plainHeight(f api.Formula) (levels int, ok bool) {
	ok = f.Kind >= 1 && f.Kind <= 18 && len(f.Kids) == number[f.Kind] && f.Name == ""
	if f.Kind == 3 {
		ok = ok && f.Lit >= 0
	} else {
		ok = ok && f.Lit == 0
	}
	for _, kid := range f.Kids {
		n, right := plainHeight(kid)
		levels, ok = max(levels, n), ok && right
	}
	return levels + 1, ok && levels+1 <= 60
}

// plainBase is promise K2 read word by word.
func plainBase(f api.Formula) api.Formula {
	if _, ok := plainHeight(f); !ok {
		return api.Formula{}
	}
	return reduced(f)
}

func reduced(f api.Formula) api.Formula {
	if f.Kind == 3 {
		return lit(f.Lit)
	}
	var kids [2]api.Formula
	for i, kid := range f.Kids {
		kids[i] = reduced(kid)
	}
	result, _ := read(texts[f.Kind], kids[0], kids[1])
	return result
}

// plainResolve is promise K1 read word by word.
func plainResolve(c api.Circuit, f api.Formula) (api.Formula, api.Errno) {
	if !circuit.Right(c) || !formula.Right(f) {
		return api.Formula{}, 1
	}
	f = cloned(f)
	for _, x := range all(&f) {
		if x.Kind == 3 {
			x.Lit, x.Name = circuit.Find(c, x.Name), ""
			if x.Lit == -1 {
				return api.Formula{}, 42
			}
		}
	}
	return f, 0
}

// cloned returns f in memory of its own.
func cloned(f api.Formula) api.Formula {
	f.Kids = slices.Clone(f.Kids)
	for i := range f.Kids {
		f.Kids[i] = cloned(f.Kids[i])
	}
	return f
}

// all returns f and the formulas in it, the outer ones first.
func all(f *api.Formula) []*api.Formula {
	list := []*api.Formula{f}
	for i := range f.Kids {
		list = append(list, all(&f.Kids[i])...)
	}
	return list
}

// equal compares without the package that the answers may come from.
func equal(a, b api.Formula) bool {
	return a.Kind == b.Kind && a.Name == b.Name && a.Lit == b.Lit && slices.EqualFunc(a.Kids, b.Kids, equal)
}

// sample returns a formula of a kind, resolved.
func sample(kind int) api.Formula {
	if kind == 3 {
		return lit(6)
	}
	return of(kind, []api.Formula{lit(2), lit(5)}[:number[kind]]...)
}

// nested returns f in n others of a kind, at a place in each.
func nested(f api.Formula, n, kind, place int) api.Formula {
	for range n {
		outer := sample(kind)
		outer.Kids[place] = f
		f = outer
	}
	return f
}

// doubled returns a formula with two to the power of n Atoms in little memory.
func doubled(f api.Formula, n, kind int) api.Formula {
	for range n {
		f = of(kind, f, f)
	}
	return f
}

// random returns a formula of at most so many levels, with Atoms of a kind.
func random(r *rand.Rand, levels int, atom func() api.Formula) api.Formula {
	kind := 1 + r.Intn(18)
	if levels == 1 {
		kind = 1 + r.Intn(3)
	}
	if kind == 3 {
		return atom()
	}
	f := of(kind)
	for range number[kind] {
		f.Kids = append(f.Kids, random(r, levels-1, atom))
	}
	return f
}

func short(f api.Formula) string {
	text := fmt.Sprint(f)
	if len(text) > 300 {
		return text[:300] + ".."
	}
	return text
}

func reduces(t *testing.T, f, want api.Formula) {
	t.Helper()
	if got := base.Base(f); !equal(got, want) {
		t.Errorf("K2: %s: %s, not %s", short(f), short(got), short(want))
	}
}

// asRead holds the answer of Base against the test's own reading, and returns whether f is resolved.
func asRead(t *testing.T, f api.Formula) bool {
	t.Helper()
	want := plainBase(f)
	reduces(t, f, want)
	return want.Kind != 0
}

// judged holds the answer for f, alone and in others, against a given one, and so the test's own reading.
func judged(t *testing.T, f api.Formula, want bool) {
	t.Helper()
	for _, x := range []api.Formula{f, of(4, f), of(5, f, lit(2)), of(16, of(2), of(9, f)), of(18, of(14, f), of(1))} {
		if asRead(t, x) != want {
			t.Errorf("the test's own reading of %s: %v", short(x), !want)
		}
	}
}

// zero holds the answer for a formula that is not resolved. It has a name, since it may be too big to be printed.
func zero(t *testing.T, what string, f api.Formula) {
	t.Helper()
	if got := base.Base(f); !equal(got, api.Formula{}) {
		t.Errorf("K2: %s: %s", what, short(got))
	}
}

// few returns whether f consists of the kinds of promise K3, as far as a walk of so many steps shows it.
func few(f api.Formula, steps *int) bool {
	if *steps--; *steps < 0 {
		return true
	}
	if !slices.Contains([]int{2, 3, 4, 5, 9, 15, 13}, f.Kind) {
		return false
	}
	for _, kid := range f.Kids {
		if !few(kid, steps) {
			return false
		}
	}
	return true
}

func TestKinds(t *testing.T) {
	a, b := lit(0), lit(7)
	not := func(f api.Formula) api.Formula { return of(4, f) }
	for i, x := range []struct{ f, want api.Formula }{
		{of(1), not(of(2))}, {of(2), of(2)}, {lit(0), lit(0)}, {lit(1), lit(1)}, {lit(2001), lit(2001)}, {lit(math.MaxInt), lit(math.MaxInt)},
		{not(a), not(a)}, {of(5, a, b), of(5, a, b)}, {of(5, b, a), of(5, b, a)},
		{of(6, a, b), not(of(5, not(a), not(b)))},
		{of(7, a, b), not(of(5, a, not(b)))},
		{of(8, a, b), of(5, not(of(5, a, not(b))), not(of(5, b, not(a))))},
		{of(9, b), of(9, b)}, {of(10, b), not(of(9, not(b)))},
		{of(11, b), of(15, of(2), b)}, {of(12, b), not(of(13, not(b)))},
		{of(13, b), of(13, b)}, {of(14, b), not(of(15, of(2), not(b)))},
		{of(15, a, b), of(15, a, b)},
		{of(16, a, b), of(5, not(of(15, not(b), of(5, not(a), not(b)))), not(of(13, not(b))))},
		{of(17, a, b), not(of(5, not(of(13, b)), not(of(15, b, of(5, a, b)))))},
		{of(18, a, b), not(of(15, not(a), not(b)))},
		{not(not(a)), not(not(a))}, {not(of(1)), not(not(of(2)))}, {of(14, of(12, a)), not(of(15, of(2), not(not(of(13, not(a))))))},
		{of(13, of(6, a, of(1))), of(13, not(of(5, not(a), not(not(of(2))))))},
		{of(15, of(10, a), of(11, b)), of(15, not(of(9, not(a))), of(15, of(2), b))},
		{of(8, of(1), of(2)), of(5, not(of(5, not(of(2)), not(of(2)))), not(of(5, of(2), not(not(of(2))))))},
	} {
		reduces(t, x.f, x.want)
		if !equal(plainBase(x.f), x.want) {
			t.Errorf("the test's own reading of %d: %s", i, short(plainBase(x.f)))
		}
	}
}

func TestNumbersOfKids(t *testing.T) {
	for _, kind := range []int{math.MinInt, -3, -1, 0, 1, 2, 3, 4, 5, 6, 7, 8, 9, 10, 11, 12, 13, 14, 15, 16, 17, 18, 19, 20, 1<<32 + 4, 1<<32 + 2, math.MaxInt} {
		for kids := range 5 {
			f := of(kind, slices.Repeat([]api.Formula{of(2)}, kids)...)
			judged(t, f, kind >= 1 && kind <= 18 && kids == number[max(0, min(kind, 18))])
		}
	}
	zero(t, "the zero formula", api.Formula{})
	zero(t, "a million subformulas", of(5, slices.Repeat([]api.Formula{lit(2)}, 1000000)...))
	reduces(t, api.Formula{Kind: 3, Lit: 4, Kids: []api.Formula{}}, lit(4))
}

func TestFields(t *testing.T) {
	for kind := 1; kind <= 18; kind++ {
		judged(t, sample(kind), true)
		for _, l := range []int{math.MinInt, -2, -1, 0, 1, 2, 3, 4001, 4002, math.MaxInt} {
			f := sample(kind)
			f.Lit = l
			judged(t, f, l == 0 || kind == 3 && l > 0)
		}
		for _, s := range []string{"a", "i0", "true", " ", "\x00", strings.Repeat("a", 1000000)} {
			f := sample(kind)
			f.Name = s
			judged(t, f, false)
		}
	}
}

func TestDepth(t *testing.T) {
	for kind := 4; kind <= 18; kind++ {
		for place := range number[kind] {
			for _, n := range []int{0, 1, 2, 57, 58, 59, 60, 61, 62, 100} {
				for _, x := range []api.Formula{lit(2), of(2), of(1)} {
					f := nested(x, n, kind, place)
					if got := base.Base(f); got.Kind != 0 != (n <= 59) {
						t.Errorf("K2: %d in %d, at %d: %d", n, kind, place, got.Kind)
					}
				}
			}
			zero(t, "very deep", nested(lit(2), 300000, kind, place))
			zero(t, "deep, and wrong inside", nested(lit(-1), 59, kind, place))
		}
	}
	// Only the deepest subformula counts, wherever it is.
	deep := func(n int) api.Formula { return nested(lit(2), n, 9, 0) }
	for n, want := range map[int]bool{57: true, 58: true, 59: false, 60: false} {
		for _, kind := range []int{5, 6, 8, 15, 18} {
			for _, f := range []api.Formula{of(kind, deep(n), lit(3)), of(kind, lit(3), deep(n)), of(kind, deep(n), deep(3)), of(kind, deep(3), deep(n)), of(kind, deep(n), deep(n))} {
				if got := base.Base(f); got.Kind != 0 != want {
					t.Errorf("K2: %d at one side of %d: %d", n, kind, got.Kind)
				}
			}
		}
	}
	// The same subformula is at two places, deep enough at one of them only.
	x := deep(30)
	for n, want := range map[int]bool{27: true, 28: true, 29: false} {
		for _, f := range []api.Formula{of(5, x, nested(x, n, 9, 0)), of(5, nested(x, n, 9, 0), x)} {
			if got := base.Base(f); got.Kind != 0 != want {
				t.Errorf("K2: one formula at two depths: %d: %d", n, got.Kind)
			}
		}
		kids := []api.Formula{x, {}}
		kids[1] = nested(of(4, kids[0]), n-1, 9, 0)
		if got := base.Base(of(6, kids...)); got.Kind != 0 != want {
			t.Errorf("K2: one formula at two depths of one list: %d: %d", n, got.Kind)
		}
	}
}

// TestManyInLittleMemory: nothing limits how many formulas are in a resolved one, in the argument and in the result.
func TestManyInLittleMemory(t *testing.T) {
	for kind := 5; kind <= 18; kind++ {
		if number[kind] != 2 {
			continue
		}
		f := doubled(lit(4), 59, kind)
		want := lit(4)
		for range 59 {
			want, _ = read(texts[kind], want, want)
		}
		if got := base.Base(f); !formula.Same(got, want) {
			t.Errorf("K2: %d, doubled 59 times: %d", kind, got.Kind)
		}
		zero(t, "doubled 60 times", doubled(lit(4), 60, kind))
		zero(t, "doubled 59 times, and wrong inside", doubled(lit(-4), 59, kind))
		zero(t, "doubled 300000 times", doubled(lit(4), 300000, kind))
		for place := range 2 {
			want := lit(4)
			for range 59 {
				kids := sample(kind).Kids
				kids[place] = want
				want, _ = read(texts[kind], kids[0], kids[1])
			}
			if got := base.Base(nested(lit(4), 59, kind, place)); !formula.Same(got, want) {
				t.Errorf("K2: %d, nested 59 times at %d: %d", kind, place, got.Kind)
			}
		}
	}
	// A formula that is nested as deep as it may be, with all that is as deep beside it.
	f := doubled(nested(doubled(lit(2), 20, 8), 20, 9, 0), 19, 16)
	if got := base.Base(f); got.Kind != 5 {
		t.Errorf("K2: doubled, nested and doubled: %d", got.Kind)
	}
	zero(t, "doubled, nested and doubled, too deep", of(4, f))
	zero(t, "doubled, nested and doubled, wrong inside", doubled(nested(doubled(of(3, lit(2)), 20, 8), 20, 9, 0), 18, 16))
}

// TestInItself: a formula may contain itself, and is nested too deeply then.
func TestInItself(t *testing.T) {
	for kind := 4; kind <= 18; kind++ {
		kids := make([]api.Formula, number[kind])
		for i := range kids {
			kids[i] = api.Formula{Kind: kind, Kids: kids}
		}
		zero(t, "in itself", kids[0])
		zero(t, "in itself and others", nested(kids[0], 10, 14, 0))
		for i := range kids {
			kids := slices.Clone(sample(kind).Kids)
			kids[i] = api.Formula{Kind: kind, Kids: kids}
			zero(t, "in itself, at one place", of(kind, kids...))
		}
	}
}

func TestBaseOfRandomFormulas(t *testing.T) {
	r := rand.New(rand.NewSource(10))
	right, wrong := 0, 0
	for range 30000 {
		f := random(r, 1+r.Intn(6), func() api.Formula { return lit(r.Intn(9)) })
		judged(t, f, true)
		list := all(&f)
		x := list[r.Intn(len(list))]
		switch r.Intn(6) {
		case 0:
			x.Kind = r.Intn(21) - 1
		case 1:
			x.Lit = r.Intn(4) - 2
		case 2:
			x.Name = []string{"", "a"}[r.Intn(2)]
		case 3:
			x.Kids = append(x.Kids, lit(2))
		case 4:
			x.Kids = x.Kids[:len(x.Kids)/2]
		case 5:
			slices.Reverse(x.Kids)
		}
		if asRead(t, f) {
			right++
		} else {
			wrong++
		}
	}
	if right < 5000 || wrong < 5000 {
		t.Errorf("too little tried: %d %d", right, wrong)
	}
}

func TestFewKinds(t *testing.T) {
	r := rand.New(rand.NewSource(11))
	shallow, deep := 0, 0
	for i := range 6000 {
		f := random(r, 1+r.Intn(5), func() api.Formula { return lit(r.Intn(9)) })
		f = nested(f, i%25, 4+r.Intn(15), 0)
		once := base.Base(f)
		if steps := 100000; !few(once, &steps) {
			t.Fatalf("K3: %s: %s", short(f), short(once))
		}
		twice := base.Base(once)
		switch levels(once) <= 60 {
		case true:
			shallow++
			if !formula.Same(once, twice) {
				t.Fatalf("K3: %s: %s, and then %s", short(f), short(once), short(twice))
			}
		case false:
			deep++
			if !equal(twice, api.Formula{}) {
				t.Fatalf("K3: %s: %s, and then %s", short(f), short(once), short(twice))
			}
		}
	}
	if shallow < 2000 || deep < 500 {
		t.Errorf("too little tried: %d %d", shallow, deep)
	}
}

// levels returns how deep f is nested, where parts of it may be in it many times.
func levels(f api.Formula) int {
	known := map[*api.Formula]int{}
	var of func(f *api.Formula) int
	of = func(f *api.Formula) int {
		if known[f] == 0 {
			for i := range f.Kids {
				known[f] = max(known[f], of(&f.Kids[i]))
			}
			known[f]++
		}
		return known[f]
	}
	return of(&f)
}

// TestDepthOfBase: AG grows by two levels, so that 19 of them stay within the depth, and 20 of them don't.
func TestDepthOfBase(t *testing.T) {
	once := base.Base(nested(lit(2), 19, 14, 0))
	if levels(once) != 58 || !equal(base.Base(once), once) {
		t.Errorf("K3: 19 times AG: %s", short(base.Base(once)))
	}
	once = base.Base(nested(lit(2), 20, 14, 0))
	if levels(once) != 61 || !equal(base.Base(once), api.Formula{}) {
		t.Errorf("K3: 20 times AG: %s", short(base.Base(once)))
	}
	once = base.Base(nested(lit(2), 59, 4, 0))
	if levels(once) != 60 || !equal(base.Base(once), once) {
		t.Errorf("K3: 59 times Not: %s", short(base.Base(once)))
	}
}

// named is a circuit with names of each kind, one of which looks like another signal's letter and number.
func named() api.Circuit {
	return api.Circuit{
		Inputs:      2,
		Latches:     []api.Latch{{Next: 7}, {Next: 10, Reset: 1}},
		Ands:        [][2]int{{6, 2}},
		Outputs:     []int{11, 0, 1},
		Bads:        []int{10},
		Constraints: []int{3},
		Fair:        []int{9, 4},
		Names: []api.Name{
			{Kind: 'i', At: 1, Text: "go"}, {Kind: 'l', At: 0, Text: "i0"}, {Kind: 'o', At: 0, Text: "E"}, {Kind: 'o', At: 2, Text: "true"},
			{Kind: 'b', At: 0, Text: "a.b"}, {Kind: 'f', At: 0, Text: "l0"}, {Kind: 'f', At: 1, Text: "12345678901234567890"},
		},
	}
}

func resolves(t *testing.T, c api.Circuit, f, want api.Formula, err api.Errno) {
	t.Helper()
	if got, e := base.Resolve(c, f); e != err || !equal(got, want) {
		t.Errorf("K1: %s: %s %d, not %s %d", short(f), short(got), e, short(want), err)
	}
}

func TestNames(t *testing.T) {
	c := named()
	for s, l := range map[string]int{
		"go": 4, "i0": 6, "E": 11, "true": 1, "a.b": 10, "l0": 9, "12345678901234567890": 4,
		"i1": 4, "l1": 8, "o0": 11, "o1": 0, "o2": 1, "b0": 10, "c0": 3, "f0": 9, "f1": 4,
	} {
		resolves(t, c, name(s), lit(l), api.OK)
		resolves(t, c, of(14, of(5, name(s), name("o1"))), of(14, of(5, lit(l), lit(0))), api.OK)
	}
	for _, s := range []string{"x", "i2", "l2", "o3", "b1", "c1", "f2", "i00", "i01", "i", "0", "I0", "e", "go.", "go1", "-1", "i-1", "1234567890123456789", "false"} {
		resolves(t, c, name(s), api.Formula{}, api.ErrName)
		for kind := 4; kind <= 18; kind++ {
			for place := range number[kind] {
				f := of(kind, []api.Formula{name("go"), name("i0")}[:number[kind]]...)
				f.Kids[place] = name(s)
				resolves(t, c, f, api.Formula{}, api.ErrName)
				resolves(t, c, of(5, name("go"), of(9, f)), api.Formula{}, api.ErrName)
			}
		}
	}
}

func TestResolveKeepsTheRest(t *testing.T) {
	c := named()
	for kind := 1; kind <= 18; kind++ {
		if kind == 3 {
			continue
		}
		f := of(kind, []api.Formula{name("go"), name("E")}[:number[kind]]...)
		want := of(kind, []api.Formula{lit(4), lit(11)}[:number[kind]]...)
		resolves(t, c, f, want, api.OK)
		resolves(t, c, of(8, of(1), of(12, f)), of(8, of(1), of(12, want)), api.OK)
	}
	for n, err := range map[int]api.Errno{0: api.OK, 58: api.OK, 59: api.OK, 60: api.ErrArg, 61: api.ErrArg, 100000: api.ErrArg} {
		f := name("go")
		for range n {
			f = of(4, f)
		}
		want := api.Formula{}
		if err == api.OK {
			want = nested(lit(4), n, 4, 0)
		}
		resolves(t, c, f, want, err)
	}
	resolves(t, api.Circuit{}, of(2), of(2), api.OK)
	resolves(t, api.Circuit{}, name("i0"), api.Formula{}, api.ErrName)
	resolves(t, api.Circuit{}, name("true"), api.Formula{}, api.ErrName)
}

func TestResolveOfWrongArguments(t *testing.T) {
	right := named()
	wrong := map[string]func(c *api.Circuit){
		"inputs":     func(c *api.Circuit) { c.Inputs = -1 },
		"variables":  func(c *api.Circuit) { c.Inputs = 2000 },
		"next":       func(c *api.Circuit) { c.Latches[0].Next = 12 },
		"reset":      func(c *api.Circuit) { c.Latches[0].Reset = 3 },
		"gate":       func(c *api.Circuit) { c.Ands[0] = [2]int{10, 2} },
		"output":     func(c *api.Circuit) { c.Outputs[0] = -1 },
		"fair":       func(c *api.Circuit) { c.Fair[0] = 12 },
		"name":       func(c *api.Circuit) { c.Names[0].Text = "" },
		"same names": func(c *api.Circuit) { c.Names[0].Text = "i0" },
		"signal":     func(c *api.Circuit) { c.Names[0].At = 2 },
	}
	// A circuit that is not valid is the error also where the name is not there, or where there is none.
	for what, change := range wrong {
		c := named()
		change(&c)
		if circuit.Right(c) {
			t.Errorf("the test's own circuit: %s", what)
		}
		for _, f := range []api.Formula{of(2), name("go"), name("x"), of(5, name("E"), of(9, name("x"))), {}} {
			resolves(t, c, f, api.Formula{}, api.ErrArg)
		}
	}
	for _, f := range []api.Formula{
		{}, of(0), of(19), of(-1), of(3), of(4), of(5, name("go")), of(9, name("go"), name("go")), of(2, name("go")), name(""), name("a b"), name(`"go"`), name(strings.Repeat("a", 21)), name("é"),
		{Kind: 3, Name: "go", Lit: 2}, {Kind: 3, Lit: 2}, {Kind: 2, Lit: 1}, {Kind: 2, Name: "go"}, {Kind: 3, Name: "go", Kids: []api.Formula{name("go")}},
		of(14, lit(2)), of(5, name("x"), of(4)), of(5, of(4), name("x")), of(6, name("go"), of(9)),
	} {
		resolves(t, right, f, api.Formula{}, api.ErrArg)
	}
	// One formula too many, in little memory or in much.
	resolves(t, right, doubled(name("go"), 9, 5), doubled(lit(4), 9, 5), api.OK)
	resolves(t, right, doubled(name("go"), 10, 5), api.Formula{}, api.ErrArg)
	resolves(t, right, doubled(name("go"), 59, 5), api.Formula{}, api.ErrArg)
	kids := make([]api.Formula, 1)
	kids[0] = of(4, kids...)
	kids[0].Kids = kids
	resolves(t, right, kids[0], api.Formula{}, api.ErrArg)
}

// wide returns a formula of n formulas that is not deep; its Atoms are numbered.
func wide(n int, next *int) api.Formula {
	switch n {
	case 1:
		*next++
		return name("l" + strconv.Itoa(*next-1))
	case 2:
		return of(4, wide(1, next))
	}
	return of(5, wide((n-1)/2, next), wide(n-1-(n-1)/2, next))
}

// TestBigArguments: a circuit with as many signals and names as there may be, and a formula with as many Atoms.
func TestBigArguments(t *testing.T) {
	c := api.Circuit{}
	for i := range 1999 {
		c.Latches = append(c.Latches, api.Latch{Next: 2*i + 3})
	}
	for _, list := range []*[]int{&c.Outputs, &c.Bads, &c.Constraints, &c.Fair} {
		*list = slices.Repeat([]int{1}, 2000)
	}
	for _, kind := range []byte("lobcf") {
		for at := range 1999 {
			c.Names = append(c.Names, api.Name{Kind: kind, At: at, Text: string(kind) + "." + strconv.Itoa(at)})
		}
	}
	if !circuit.Right(c) {
		t.Fatal("the test's own circuit")
	}
	for n, err := range map[int]api.Errno{1999: api.OK, 2000: api.OK, 2001: api.ErrArg} {
		next := 0
		f := wide(n, &next)
		got, e := base.Resolve(c, f)
		if e != err {
			t.Errorf("K1: %d formulas: %d", n, e)
		}
		if err != api.OK {
			continue
		}
		place := 0
		for _, x := range all(&got) {
			if x.Kind == 3 {
				if x.Lit != 2*place+2 || x.Name != "" {
					t.Errorf("K1: Atom %d: %d %s", place, x.Lit, x.Name)
				}
				place++
			}
		}
		if place < 500 {
			t.Errorf("K1: %d formulas: only %d Atoms", n, place)
		}
		reduces(t, got, plainBase(got))
	}
}

func TestResolveOfRandomFormulas(t *testing.T) {
	r := rand.New(rand.NewSource(12))
	c := named()
	counts := map[api.Errno]int{}
	names := []string{"go", "i0", "E", "true", "a.b", "l0", "12345678901234567890", "o1", "o2", "c0", "f1", "l1"}
	atom := func() api.Formula {
		if r.Intn(12) == 0 {
			return name([]string{"x", "i2", "b1", "c1", "A"}[r.Intn(5)])
		}
		return name(names[r.Intn(len(names))])
	}
	for range 20000 {
		f := random(r, 1+r.Intn(6), atom)
		if r.Intn(10) == 0 {
			list := all(&f)
			x := list[r.Intn(len(list))]
			switch r.Intn(4) {
			case 0:
				x.Kind = r.Intn(21) - 1
			case 1:
				x.Lit = r.Intn(3) - 1
			case 2:
				x.Name = []string{"", "go", "b c"}[r.Intn(3)]
			case 3:
				x.Kids = append(x.Kids, name("go"))
			}
		}
		want, err := plainResolve(c, f)
		resolves(t, c, f, want, err)
		counts[err]++
		if err == api.OK {
			reduces(t, want, plainBase(want))
			if got, e := base.Resolve(c, want); e == api.OK && len(got.Kids) == 0 && got.Kind == 3 {
				t.Errorf("K1: %s is resolved twice", short(f))
			}
		}
	}
	if counts[api.OK] < 5000 || counts[api.ErrName] < 1000 || counts[api.ErrArg] < 500 {
		t.Errorf("too little tried: %v", counts)
	}
}

// padded returns f in memory of its own, with something beyond the length of each list.
func padded(f api.Formula) api.Formula {
	kids := make([]api.Formula, len(f.Kids), len(f.Kids)+2)
	for i, kid := range f.Kids {
		kids[i] = padded(kid)
	}
	f.Kids = append(kids, lit(99), name("beyond"))[:len(kids)]
	return f
}

// TestMemory: arguments are not modified, and neither is what is beyond the length of a list; an answer changes no argument when it is written into, and no later answer.
func TestMemory(t *testing.T) {
	r := rand.New(rand.NewSource(13))
	c := named()
	before := named()
	for range 3000 {
		f := random(r, 1+r.Intn(5), func() api.Formula { return name([]string{"go", "E", "o1", "l1"}[r.Intn(4)]) })
		f = padded(f)
		kept := cloned(f)
		got, err := base.Resolve(c, f)
		want := cloned(got)
		for _, x := range all(&got) {
			x.Kids = append(x.Kids, lit(98))
			*x = lit(97)
		}
		if again, e := base.Resolve(c, f); err != api.OK || e != err || !equal(again, want) || !equal(f, kept) {
			t.Fatalf("K1: %s: %d, %s, not %s, or %s", short(kept), e, short(again), short(want), short(f))
		}
		g := padded(want)
		got = base.Base(g)
		wanted := cloned(got)
		for _, x := range all(&got) {
			x.Kids = append(x.Kids, lit(98))
			*x = lit(97)
		}
		if again := base.Base(g); !equal(again, wanted) || !equal(g, want) {
			t.Fatalf("K2: %s: %s, not %s, or %s", short(want), short(again), short(wanted), short(g))
		}
		for _, x := range append(all(&f), all(&g)...) {
			if beyond := x.Kids[len(x.Kids) : len(x.Kids)+2]; beyond[0].Lit != 99 || beyond[1].Name != "beyond" {
				t.Fatalf("R3: %s: %v", short(*x), beyond)
			}
		}
	}
	if !reflect.DeepEqual(c, before) {
		t.Errorf("R3: the circuit: %v", c)
	}
}
