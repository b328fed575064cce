package formula_test

import (
	"math"
	"math/rand"
	"runtime/debug"
	"slices"
	"strconv"
	"strings"
	"testing"

	"parterre/api"
	"parterre/formula"
)

// plainSame is promise H3 read word by word.
func plainSame(a, b api.Formula) bool {
	return a.Kind == b.Kind && a.Name == b.Name && a.Lit == b.Lit && slices.EqualFunc(a.Kids, b.Kids, plainSame)
}

// compared holds the answers for two formulas, each way, against a given one.
func compared(t *testing.T, name string, a, b api.Formula, want bool) {
	t.Helper()
	if formula.Same(a, b) != want || formula.Same(b, a) != want {
		t.Errorf("H3: %s: not %v", name, want)
	}
}

func TestSame(t *testing.T) {
	a, b := atom("a"), atom("b")
	lit := api.Formula{Kind: api.Atom, Lit: 4}
	for i, x := range []struct {
		a, b api.Formula
		want bool
	}{
		{api.Formula{}, api.Formula{}, true},
		{api.Formula{}, of(api.False), false},
		{of(api.True), of(api.True), true},
		{of(api.True), of(api.False), false},
		{of(math.MinInt), of(math.MinInt), true},
		{of(math.MaxInt), of(-1), false},
		{a, a, true},
		{a, b, false},
		{a, atom("A"), false},
		{a, atom("aa"), false},
		{a, atom(""), false},
		{atom(""), atom(""), true},
		{atom("a\x00"), atom("a"), false},
		{atom(strings.Repeat("a", 1000)), atom(strings.Repeat("a", 1000)), true},
		{lit, lit, true},
		{lit, api.Formula{Kind: api.Atom, Lit: 5}, false},
		{lit, api.Formula{Kind: api.Atom}, false},
		{lit, api.Formula{Kind: api.Atom, Lit: -4}, false},
		{lit, api.Formula{Kind: api.Atom, Lit: 4, Name: "a"}, false},
		{api.Formula{Kind: api.True, Name: "a"}, of(api.True), false},
		{api.Formula{Kind: api.True, Kids: []api.Formula{}}, of(api.True), true},
		{api.Formula{Kind: api.Not, Kids: []api.Formula{}}, of(api.Not), true},
		{of(api.Not), of(api.Not, a), false},
		{of(api.Not, a), of(api.Not, a), true},
		{of(api.Not, a), of(api.Not, b), false},
		{of(api.Not, a), of(api.EX, a), false},
		{of(api.Not, a), of(api.Not, a, a), false},
		{of(api.Not, of(api.Not, a)), of(api.Not, a), false},
		{of(api.And, a, b), of(api.And, a, b), true},
		{of(api.And, a, b), of(api.And, b, a), false},
		{of(api.And, a, b), of(api.And, a, a), false},
		{of(api.And, a, b), of(api.And, b, b), false},
		{of(api.And, a, a), of(api.And, b, b), false},
		{of(api.And, a, b), of(api.Or, a, b), false},
		{of(api.And, a, of(api.Not, b)), of(api.And, of(api.Not, b), a), false},
		{of(api.True, a, b, a), of(api.True, a, b, a), true},
		{of(api.True, a, b, a), of(api.True, a, b, b), false},
		{of(99, lit, of(-3, b)), of(99, lit, of(-3, b)), true},
		{of(99, lit, of(-3, b)), of(99, lit, of(-3, a)), false},
	} {
		compared(t, "pair "+strconv.Itoa(i), cloned(x.a), cloned(x.b), x.want)
	}
}

// TestSameKinds: no two kinds are the same, valid or not.
func TestSameKinds(t *testing.T) {
	kinds := []int{math.MinInt, -1, 0, 1, 2, 3, 4, 5, 6, 7, 8, 9, 10, 11, 12, 13, 14, 15, 16, 17, 18, 19, 1<<32 + 1, math.MaxInt}
	for _, one := range kinds {
		for _, two := range kinds {
			compared(t, "kinds", of(one), of(two), one == two)
			compared(t, "kinds with subformulas", of(one, atom("a")), of(two, atom("a")), one == two)
			compared(t, "kinds of subformulas", of(api.EX, of(one)), of(api.EX, of(two)), one == two)
		}
	}
}

func TestSameOfRandomFormulas(t *testing.T) {
	r := rand.New(rand.NewSource(88))
	same, different := 0, 0
	for range 3000 {
		f := random(r, 1+r.Intn(7))
		compared(t, "a copy", f, cloned(f), true)
		compared(t, "itself", f, f, true)
		for _, other := range []api.Formula{spoiled(r, f), random(r, 2), of(api.EX, f)} {
			want := plainSame(f, other)
			compared(t, "another one", f, other, want)
			if want {
				same++
			} else {
				different++
			}
		}
	}
	if same < 500 || different < 5000 {
		t.Errorf("too little tried: %d and %d", same, different)
	}
}

// TestSameEverywhere: a difference of any sort in any formula in a formula makes it another one.
func TestSameEverywhere(t *testing.T) {
	f := of(api.EU, of(api.And, atom("a"), of(api.Not, atom("b"))), of(api.AR, of(api.Or, atom("c"), atom("d")), of(api.EX, of(api.AG, atom("e")))))
	for i := range all(&f) {
		for _, change := range []func(x *api.Formula){
			func(x *api.Formula) { x.Kind++ },
			func(x *api.Formula) { x.Kind -= 19 },
			func(x *api.Formula) { x.Name += "x" },
			func(x *api.Formula) { x.Lit = -1 },
			func(x *api.Formula) { x.Lit = 1 << 40 },
			func(x *api.Formula) { x.Kids = append(slices.Clone(x.Kids), atom("a")) },
			func(x *api.Formula) { x.Kids = append([]api.Formula{{}}, x.Kids...) },
			func(x *api.Formula) { *x = of(api.Not, *x) },
		} {
			other := cloned(f)
			change(all(&other)[i])
			compared(t, "one difference", f, other, false)
		}
		other := cloned(f)
		if x := all(&other)[i]; len(x.Kids) > 0 {
			slices.Reverse(x.Kids)
			compared(t, "exchanged subformulas", f, other, len(x.Kids) == 1)
			x.Kids = x.Kids[:len(x.Kids)-1]
			compared(t, "a subformula less", f, other, false)
		}
	}
}

// TestSameOfBigFormulas: formulas need not be valid to be held against each other. The stack is kept small, as if they were far deeper.
func TestSameOfBigFormulas(t *testing.T) {
	defer debug.SetMaxStack(debug.SetMaxStack(1 << 22))
	const many = 100000
	for place := range 2 {
		deep := nested(atom("a"), many, api.And, place)
		compared(t, "deep formulas", deep, nested(atom("a"), many, api.And, place), true)
		compared(t, "deep formulas with a difference", deep, nested(atom("b"), many, api.And, place), false)
		compared(t, "a level more", deep, nested(atom("a"), many+1, api.And, place), false)
	}
	wide, other := make([]api.Formula, many), make([]api.Formula, many)
	compared(t, "many subformulas", of(api.And, wide...), of(api.And, other...), true)
	compared(t, "a subformula less", of(api.And, wide...), of(api.And, other[1:]...), false)
	for _, place := range []int{0, many / 2, many - 1} {
		other[place].Lit = 1
		compared(t, "one of many subformulas", of(api.And, wide...), of(api.And, other...), false)
		other[place].Lit = 0
	}
	compared(t, "shared subformulas", shared(200, "a"), shared(200, "a"), true)
	compared(t, "shared subformulas with a difference", shared(200, "a"), shared(200, "b"), false)
	compared(t, "shared subformulas, a level more", shared(200, "a"), shared(201, "a"), false)
}

// ring returns a formula that comes back to itself after so many levels, of which the last has another name.
func ring(levels int, name, last string) api.Formula {
	rest := make([]api.Formula, levels)
	for i := range rest {
		rest[i] = api.Formula{Kind: api.EX, Name: name, Kids: rest[(i+1)%levels:][:1]}
	}
	rest[levels-1].Name = last
	return rest[0]
}

// TestSameOfRings: formulas that contain themselves are the same if they are so on each level, however far.
func TestSameOfRings(t *testing.T) {
	for _, x := range []struct {
		name string
		a, b api.Formula
		want bool
	}{
		{"equal rings", ring(3, "a", "b"), ring(3, "a", "b"), true},
		{"a ring twice", ring(3, "a", "b"), api.Formula{Kind: api.EX, Name: "a", Kids: []api.Formula{{Kind: api.EX, Name: "a", Kids: []api.Formula{{Kind: api.EX, Name: "b", Kids: []api.Formula{ring(3, "a", "b")}}}}}}, true},
		{"rings without a difference", ring(2, "a", "a"), ring(3, "a", "a"), true},
		{"long rings without a difference", ring(100003, "a", "a"), ring(100019, "a", "a"), true},
		{"rings with a difference", ring(2, "a", "b"), ring(3, "a", "b"), false},
		{"long rings with a difference", ring(100003, "a", "b"), ring(100019, "a", "b"), false},
		{"long rings with a late difference", ring(100003, "a", "a"), ring(100019, "a", "b"), false},
		{"a ring and no ring", ring(2, "a", "a"), atom("a"), false},
		{"a ring and many levels", ring(1, "", ""), nested(of(api.EX), 100000, api.EX, 0), false},
	} {
		compared(t, x.name, x.a, x.b, x.want)
		compared(t, x.name+", the first one with itself", x.a, x.a, true)
	}
	both := of(api.And, atom("a"), atom("a"))
	both.Kids[0], both.Kids[1] = both, both
	again := of(api.And, both, both)
	compared(t, "rings in rings", both, again, true)
	compared(t, "a ring beside another one", both, of(api.And, both, of(api.And, both, ring(1, "", ""))), false)
}

// TestNothingChanges: neither an argument nor the memory behind its subformulas is written to, and answers stay what they are.
func TestNothingChanges(t *testing.T) {
	memory := []api.Formula{atom("a"), of(api.EX, atom("b.c")), atom("behind"), {Lit: 7}}
	f := of(api.EU, memory[:2]...)
	kept := cloned(of(api.EU, memory...))
	text, err := formula.Print(f)
	for range 3 {
		formula.Print(of(api.Not, atom("c")))
		formula.Print(api.Formula{})
		if again, e := formula.Print(f); again != text || e != err || text != `E [a U EX "b.c"]` || formula.Size(f) != 4 || !formula.Right(f) || !formula.Same(f, f) {
			t.Errorf("R4: %q %d, and then %q %d", text, err, again, e)
		}
	}
	if !plainSame(of(api.EU, memory...), kept) {
		t.Error("R3: an argument has changed")
	}
}
