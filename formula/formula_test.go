package formula_test

import (
	"fmt"
	"math"
	"math/rand"
	"slices"
	"strconv"
	"strings"
	"testing"

	"parterre/api"
	"parterre/formula"
	"parterre/token"
)

// words holds how many subformulas each kind has, and its words.
var words = map[int]struct {
	kids int
	word string
}{
	1: {0, "false"}, 2: {0, "true"}, 3: {0, ""}, 4: {1, "!"}, 5: {2, "&"}, 6: {2, "|"}, 7: {2, "->"}, 8: {2, "<->"},
	9: {1, "EX"}, 10: {1, "AX"}, 11: {1, "EF"}, 12: {1, "AF"}, 13: {1, "EG"}, 14: {1, "AG"},
	15: {2, "E U"}, 16: {2, "A U"}, 17: {2, "E R"}, 18: {2, "A R"},
}

var keywords = strings.Fields("true false E A EX AX EF AF EG AG U R")

const wordBytes = "abcdefghijklmnopqrstuvwxyzABCDEFGHIJKLMNOPQRSTUVWXYZ0123456789_"

func of(kind int, kids ...api.Formula) api.Formula { return api.Formula{Kind: kind, Kids: kids} }

func atom(name string) api.Formula { return api.Formula{Kind: api.Atom, Name: name} }

// sample returns a valid formula of a kind.
func sample(kind int) api.Formula {
	if kind == api.Atom {
		return atom("x")
	}
	return of(kind, []api.Formula{atom("a"), atom("b")}[:words[kind].kids]...)
}

// ofSize returns a formula of n formulas that is not deep.
func ofSize(n int) api.Formula { return full(n, api.Or, "a") }

// full returns a formula of n formulas, of a kind that has two subformulas, with atoms of a name.
func full(n, kind int, name string) api.Formula {
	switch n {
	case 1:
		return atom(name)
	case 2:
		return of(api.EX, atom(name))
	}
	return of(kind, full((n-1)/2, kind, name), full(n-1-(n-1)/2, kind, name))
}

// nested returns f in n others of a kind, at a place in each.
func nested(f api.Formula, n, kind, place int) api.Formula {
	for range n {
		outer := sample(kind)
		outer.Kids[place] = f
		f = outer
	}
	return f
}

// shared returns a formula with two to the power of n atoms, all of the same name, in little memory.
func shared(n int, name string) api.Formula {
	f := atom(name)
	for range n {
		f = of(api.And, f, f)
	}
	return f
}

// random returns a valid formula of at most so many levels.
func random(r *rand.Rand, levels int) api.Formula {
	kind := 1 + r.Intn(18)
	if levels == 1 {
		kind = 1 + r.Intn(3)
	}
	if kind == api.Atom {
		return atom([]string{"a", "b", "a.b", "E", "U", "true", "0", "_", "l1", "(a", "a)", "!a", "a&b", "<->", "[", "]"}[r.Intn(16)])
	}
	f := of(kind)
	for range words[kind].kids {
		f.Kids = append(f.Kids, random(r, levels-1))
	}
	return f
}

// cloned returns f in memory of its own.
func cloned(f api.Formula) api.Formula {
	f.Kids = slices.Clone(f.Kids)
	for i := range f.Kids {
		f.Kids[i] = cloned(f.Kids[i])
	}
	return f
}

// all returns f and the formulas in it, the outer ones first.
func all(f *api.Formula) []*api.Formula {
	list := []*api.Formula{f}
	for i := range f.Kids {
		list = append(list, all(&f.Kids[i])...)
	}
	return list
}

// spoiled returns f with one thing changed in it; it may still be valid.
func spoiled(r *rand.Rand, f api.Formula) api.Formula {
	f = cloned(f)
	list := all(&f)
	x := list[r.Intn(len(list))]
	switch r.Intn(6) {
	case 0:
		x.Kind = r.Intn(21) - 1
	case 1:
		x.Lit = r.Intn(3) - 1
	case 2:
		x.Name = []string{"", "b", "b c", `"b"`, "bbbbbbbbbbbbbbbbbbbb", "bbbbbbbbbbbbbbbbbbbbb"}[r.Intn(6)]
	case 3:
		x.Kids = append(x.Kids, atom("b"))
	case 4:
		x.Kids = x.Kids[:len(x.Kids)/2]
	case 5:
		slices.Reverse(x.Kids)
	}
	return f
}

// plainName is what promise H1 says of the Name of an Atom, read word by word.
func plainName(s string) bool {
	wrong := func(b byte) bool { return b < 33 || b > 126 || b == 34 }
	return len(s) >= 1 && len(s) <= 20 && !slices.ContainsFunc([]byte(s), wrong)
}

// plainSize is promise H1 read word by word, for formulas that are not too big to be gone through. It returns how many formulas and levels there are.
func plainSize(f api.Formula) (size, levels int, ok bool) {
	kind, ok := words[f.Kind]
	ok = ok && len(f.Kids) == kind.kids && f.Lit == 0
	if f.Kind == 3 {
		ok = ok && plainName(f.Name)
	} else {
		ok = ok && f.Name == ""
	}
	for _, kid := range f.Kids {
		n, deep, right := plainSize(kid)
		size, levels, ok = size+n, max(levels, deep), ok && right
	}
	size, levels = size+1, levels+1
	return size, levels, ok && levels <= 60 && size <= 2000
}

// plainPrint is promise H2 read word by word, for valid formulas.
func plainPrint(f api.Formula) string {
	inner := func(i int) string {
		if kind := f.Kids[i].Kind; 5 <= kind && kind <= 8 {
			return "(" + plainPrint(f.Kids[i]) + ")"
		}
		return plainPrint(f.Kids[i])
	}
	word := words[f.Kind].word
	switch {
	case f.Kind == 3:
		if strings.Trim(f.Name, wordBytes) == "" && !slices.Contains(keywords, f.Name) {
			return f.Name
		}
		return `"` + f.Name + `"`
	case f.Kind < 3:
		return word
	case f.Kind == 4:
		return word + inner(0)
	case f.Kind <= 8:
		return inner(0) + " " + word + " " + inner(1)
	case f.Kind <= 14:
		return word + " " + inner(0)
	}
	return word[:1] + " [" + inner(0) + word[1:] + " " + inner(1) + "]"
}

func short(f api.Formula) string {
	if size, _, _ := plainSize(f); size > 20 {
		return fmt.Sprintf("a formula of kind %d and size %d", f.Kind, size)
	}
	return fmt.Sprint(f)
}

func accepted(t *testing.T, f api.Formula, size int) {
	t.Helper()
	if !formula.Right(f) || formula.Size(f) != size {
		t.Errorf("H1: %s: %v, and %d instead of %d", short(f), formula.Right(f), formula.Size(f), size)
	}
}

// refused holds the answers for a formula that is not valid. It has a name, since it may be too big to be printed.
func refused(t *testing.T, name string, f api.Formula) {
	t.Helper()
	if formula.Right(f) || formula.Size(f) != 0 {
		t.Errorf("H1: %s: %v, and %d", name, formula.Right(f), formula.Size(f))
	}
	if text, err := formula.Print(f); text != "" || err != api.ErrArg {
		t.Errorf("H2: %s: %q %d", name, text, err)
	}
}

func printed(t *testing.T, f api.Formula, want string) {
	t.Helper()
	if text, err := formula.Print(f); text != want || err != api.OK {
		t.Errorf("H2: %q %d, not %q", text, err, want)
	}
}

// asRead holds the answers against the test's own reading, and returns whether f is valid.
func asRead(t *testing.T, f api.Formula) bool {
	t.Helper()
	size, _, ok := plainSize(f)
	if ok {
		accepted(t, f, size)
		printed(t, f, plainPrint(f))
	} else {
		refused(t, short(f), f)
	}
	return ok
}

// judged holds the answers for f, alone and in others, against a given one, and so the test's own reading.
func judged(t *testing.T, f api.Formula, want bool) {
	t.Helper()
	for _, x := range []api.Formula{f, of(api.Not, f), of(api.And, f, atom("a")), of(api.AR, of(api.True), of(api.EX, f))} {
		if asRead(t, x) != want {
			t.Errorf("the test's own reading of %s: %v", short(x), !want)
		}
	}
}

func TestRightOfKinds(t *testing.T) {
	for _, kind := range []int{math.MinInt, -4, -1, 0, 1, 2, 3, 4, 5, 6, 7, 8, 9, 10, 11, 12, 13, 14, 15, 16, 17, 18, 19, 20, 100, 1<<32 + 4, math.MaxInt} {
		for kids := range 5 {
			f := of(kind, slices.Repeat([]api.Formula{of(api.True)}, kids)...)
			if kind == api.Atom {
				f.Name = "a"
			}
			own, exists := words[kind]
			judged(t, f, exists && kids == own.kids)
		}
	}
	refused(t, "the zero formula", api.Formula{})
	accepted(t, api.Formula{Kind: api.True, Kids: []api.Formula{}}, 1)
	refused(t, "a million subformulas", of(api.And, make([]api.Formula, 1000000)...))
}

func TestRightOfNames(t *testing.T) {
	for b := range 256 {
		one := string([]byte{byte(b)})
		want := 33 <= b && b <= 126 && b != 34
		for _, name := range []string{one, one + "a", "a" + one, "a" + one + "b", strings.Repeat("a", 19) + one} {
			judged(t, atom(name), want)
		}
	}
	for n, want := range map[int]bool{0: false, 1: true, 2: true, 19: true, 20: true, 21: false, 22: false, 1000000: false} {
		judged(t, atom(strings.Repeat("a", n)), want)
		judged(t, atom(strings.Repeat(".", n)), want)
	}
	for _, name := range []string{"é", "\u0101", "\uFFFD", "\U00010041", "a b", `"a"`, `""`, "a\n"} {
		judged(t, atom(name), false)
	}
	for _, name := range append(keywords, "a.b", "->", "!a", "a&b", "(", "0", "_") {
		judged(t, atom(name), true)
	}
}

// TestRightOfOtherFields: no formula has a Lit, and only an Atom has a Name.
func TestRightOfOtherFields(t *testing.T) {
	for kind := 1; kind <= 18; kind++ {
		judged(t, sample(kind), true)
		for _, lit := range []int{math.MinInt, -1, 1, 2, math.MaxInt} {
			f := sample(kind)
			f.Lit = lit
			judged(t, f, false)
		}
		for _, name := range []string{"a", "true", " ", "\x00"} {
			f := sample(kind)
			f.Name = name
			judged(t, f, kind == api.Atom && (name == "a" || name == "true"))
		}
	}
}

func TestRightOfDepth(t *testing.T) {
	for kind, own := range words {
		for place := range own.kids {
			for _, inner := range []int{api.True, api.False, api.Atom} {
				for n, want := range map[int]bool{0: true, 1: true, 58: true, 59: true, 60: false, 61: false, 100: false} {
					f := nested(sample(inner), n, kind, place)
					if asRead(t, f) != want {
						t.Errorf("H1: kind %d in %d others", kind, n)
					}
				}
			}
			// The levels count, whatever stands beside them.
			accepted(t, nested(of(api.Or, atom("a"), atom("b")), 58, kind, place), 3+58*own.kids)
			refused(t, "a disjunction in 59 others", nested(of(api.Or, atom("a"), atom("b")), 59, kind, place))
			refused(t, "many levels", nested(atom("a"), 10000, kind, place))
		}
	}
}

func TestSizes(t *testing.T) {
	for n := 1; n <= 2020; n++ {
		f := ofSize(n)
		if n <= 2000 {
			accepted(t, f, n)
			printed(t, f, plainPrint(f))
		} else {
			refused(t, strconv.Itoa(n)+" formulas", f)
		}
	}
	for _, n := range []int{2001, 4001, 100000} {
		refused(t, "one of two is too big", of(api.And, ofSize(n), atom("a")))
		refused(t, "the other one is too big", of(api.And, atom("a"), ofSize(n)))
	}
	refused(t, "two of 1000", of(api.And, ofSize(1000), ofSize(1000)))
	accepted(t, of(api.And, ofSize(1000), ofSize(999)), 2000)
	accepted(t, of(api.And, ofSize(1998), atom("a")), 2000)
	accepted(t, of(api.And, atom("a"), ofSize(1998)), 2000)
}

// TestSpoiledSizes: one wrong formula, wherever it stands, and whatever number of formulas there is.
func TestSpoiledSizes(t *testing.T) {
	for _, n := range []int{1, 2, 3, 10, 1999, 2000} {
		f := ofSize(n)
		for _, x := range all(&f) {
			kept := *x
			x.Lit = 2
			refused(t, "a Lit", f)
			*x = kept
		}
		accepted(t, f, n)
	}
}

// TestRightOfSharedFormulas: formulas that stand in several places count as often, and are looked at only so long as they fit.
func TestRightOfSharedFormulas(t *testing.T) {
	accepted(t, shared(9, "a"), 1023)
	for n := 10; n < 100; n++ {
		refused(t, "shared subformulas", shared(n, "a"))
	}
	for kind, own := range words {
		round := of(kind, make([]api.Formula, own.kids)...)
		for i := range round.Kids {
			round.Kids[i] = round
		}
		if own.kids > 0 {
			refused(t, "a formula that contains itself", round)
		}
	}
}

func TestPrint(t *testing.T) {
	a, b, and := atom("a"), atom("b"), of(api.And, atom("a"), atom("b"))
	for want, f := range map[string]api.Formula{
		"false":                        of(api.False),
		"true":                         of(api.True),
		"a":                            a,
		"!a":                           of(api.Not, a),
		"!true":                        of(api.Not, of(api.True)),
		"a & b":                        and,
		"b & a":                        of(api.And, b, a),
		"a | b":                        of(api.Or, a, b),
		"a -> b":                       of(api.Imply, a, b),
		"a <-> b":                      of(api.Same, a, b),
		"EX a":                         of(api.EX, a),
		"AX a":                         of(api.AX, a),
		"EF a":                         of(api.EF, a),
		"AF a":                         of(api.AF, a),
		"EG a":                         of(api.EG, a),
		"AG a":                         of(api.AG, a),
		"E [a U b]":                    of(api.EU, a, b),
		"A [a U b]":                    of(api.AU, a, b),
		"E [a R b]":                    of(api.ER, a, b),
		"A [a R b]":                    of(api.AR, a, b),
		"AG (req -> AF ack)":           of(api.AG, of(api.Imply, atom("req"), of(api.AF, atom("ack")))),
		"!!a":                          of(api.Not, of(api.Not, a)),
		"!(a & b)":                     of(api.Not, and),
		"!EX a":                        of(api.Not, of(api.EX, a)),
		"EX !a":                        of(api.EX, of(api.Not, a)),
		"EX (a & b)":                   of(api.EX, and),
		"EX AX EF AF EG AG false":      of(api.EX, of(api.AX, of(api.EF, of(api.AF, of(api.EG, of(api.AG, of(api.False))))))),
		"(a & b) & (a & b)":            of(api.And, and, and),
		"(a & b) | !a":                 of(api.Or, and, of(api.Not, a)),
		"a -> (b -> a)":                of(api.Imply, a, of(api.Imply, b, a)),
		"(a -> b) -> a":                of(api.Imply, of(api.Imply, a, b), a),
		"(a <-> b) <-> a":              of(api.Same, of(api.Same, a, b), a),
		"(a | b) & EX b":               of(api.And, of(api.Or, a, b), of(api.EX, b)),
		"E [(a & b) U (a | b)]":        of(api.EU, and, of(api.Or, a, b)),
		"A [(a -> b) R (a <-> b)]":     of(api.AR, of(api.Imply, a, b), of(api.Same, a, b)),
		"E [E [a U b] R A [b R EX a]]": of(api.ER, of(api.EU, a, b), of(api.AR, b, of(api.EX, a))),
		`E ["U" U "R"]`:                of(api.EU, atom("U"), atom("R")),
		`!"!"`:                         of(api.Not, atom("!")),
		`"(a" & "b)"`:                  of(api.And, atom("(a"), atom("b)")),
		`"a&b"`:                        atom("a&b"),
		`"E[aUb]"`:                     atom("E[aUb]"),
		`EX "EX"`:                      of(api.EX, atom("EX")),
		"0 & 1":                        of(api.And, atom("0"), atom("1")),
	} {
		printed(t, f, want)
		if plainPrint(f) != want {
			t.Errorf("the test's own reading of %q: %q", want, plainPrint(f))
		}
	}
}

// TestPrintOfPairs: each kind in each place of each kind.
func TestPrintOfPairs(t *testing.T) {
	for outer := range words {
		for inner := range words {
			for place := range words[outer].kids {
				f := sample(outer)
				f.Kids[place] = sample(inner)
				judged(t, f, true)
			}
		}
	}
}

func TestPrintOfNames(t *testing.T) {
	for _, word := range keywords {
		printed(t, atom(word), `"`+word+`"`)
		for _, name := range []string{word + "_", "_" + word, word + "0", word + word, strings.ToLower(word) + "x", word + "x"} {
			printed(t, atom(name), name)
		}
		printed(t, atom(word+"."), `"`+word+`."`)
	}
	for _, name := range []string{"e", "a", "u", "r", "ex", "Ex", "eX", "ag", "af", "True", "TRUE", "False", "FALSE", "UR", "EU", "AU", "ER", "AR", "X", "F", "G", "tru", "fals", "not", "Not", "007", "azAZ09_", "_", "l0", "abcdefghijklmnopqrst"} {
		printed(t, atom(name), name)
	}
	for _, name := range []string{"a.b", "->", "<->", "!", "&", "|", "(", ")", "[", "]", "a!", "!a", "a(", "()", "a'", "~", "{}", "a,b", "a-", "-1", "a->b", "ab&", "a;abcdefghijklmnopqr"} {
		printed(t, atom(name), `"`+name+`"`)
	}
}

// reader reads what Print writes, and nothing more.
type reader struct{ rest string }

func (r *reader) take(s string) bool {
	rest, ok := strings.CutPrefix(r.rest, s)
	r.rest = rest
	return ok
}

// whole reads a formula that may stand without parentheses.
func (r *reader) whole() api.Formula {
	f := r.part()
	for kind := api.And; kind <= api.Same; kind++ {
		if r.take(" " + words[kind].word + " ") {
			return of(kind, f, r.part())
		}
	}
	return f
}

func (r *reader) part() api.Formula {
	if r.take("(") {
		f := r.whole()
		r.take(")")
		return f
	}
	if r.take("!") {
		return of(api.Not, r.part())
	}
	for kind := api.EX; kind <= api.AG; kind++ {
		if r.take(words[kind].word + " ") {
			return of(kind, r.part())
		}
	}
	if r.take("E [") {
		return r.pair(api.EU, api.ER)
	}
	if r.take("A [") {
		return r.pair(api.AU, api.AR)
	}
	return r.leaf()
}

func (r *reader) pair(until, release int) api.Formula {
	f := of(release, r.part())
	if r.take(" U ") {
		f.Kind = until
	} else {
		r.take(" R ")
	}
	f.Kids = append(f.Kids, r.part())
	r.take("]")
	return f
}

func (r *reader) leaf() api.Formula {
	if r.take(`"`) {
		name, rest, _ := strings.Cut(r.rest, `"`)
		r.rest = rest
		return atom(name)
	}
	name := r.rest[:len(r.rest)-len(strings.TrimLeft(r.rest, wordBytes))]
	r.rest = r.rest[len(name):]
	switch name {
	case "false":
		return of(api.False)
	case "true":
		return of(api.True)
	}
	return atom(name)
}

// distinct holds H4 for a formula: its text has tokens, and leads back to it, so no other formula has the same one.
func distinct(t *testing.T, f api.Formula) string {
	t.Helper()
	text, err := formula.Print(f)
	if err != api.OK {
		t.Fatalf("H2: %s: %d", short(f), err)
	}
	r := reader{rest: text}
	if back := r.whole(); r.rest != "" || !plainSame(back, f) || !formula.Same(back, f) {
		t.Errorf("H4: %q is the text of %s as well as of %s", text, short(f), short(back))
	}
	if len(text) <= api.MaxText {
		if _, err, at := token.Lex(text); err != api.OK {
			t.Errorf("H4: %q has no tokens: %d %d", text, err, at)
		}
	}
	return text
}

func TestRandomFormulas(t *testing.T) {
	r := rand.New(rand.NewSource(8))
	valid, broken := 0, 0
	for range 5000 {
		f := random(r, 1+r.Intn(8))
		if asRead(t, f) {
			distinct(t, f)
			valid++
		}
		if !asRead(t, spoiled(r, f)) {
			broken++
		}
	}
	if valid < 4000 || broken < 1000 {
		t.Errorf("too little tried: %d and %d", valid, broken)
	}
}

// TestDistinctTexts holds the texts of many small formulas against each other.
func TestDistinctTexts(t *testing.T) {
	seen := map[string]api.Formula{}
	add := func(f api.Formula) {
		text := distinct(t, f)
		if other, again := seen[text]; again && !plainSame(f, other) {
			t.Errorf("H4: %q is the text of %s and of %s", text, short(f), short(other))
		}
		seen[text] = f
	}
	leaves := []api.Formula{of(api.True), of(api.False)}
	for _, name := range []string{"a", "E", "true", "U", "(a", "]", "!a", "a&a"} {
		leaves = append(leaves, atom(name))
	}
	over := func(first, second []api.Formula) []api.Formula {
		var list []api.Formula
		for kind, own := range words {
			for _, a := range first {
				if own.kids == 1 {
					list = append(list, of(kind, a))
				}
				for _, b := range second {
					if own.kids == 2 {
						list = append(list, of(kind, a, b))
					}
				}
			}
		}
		return list
	}
	two := over(leaves, leaves)
	for _, f := range slices.Concat(leaves, two, over(two, leaves), over(leaves, two)) {
		add(f)
	}
	if len(seen) < 100000 {
		t.Errorf("only %d texts", len(seen))
	}
}

// TestLongTexts: texts may get longer than those that have tokens.
func TestLongTexts(t *testing.T) {
	f := full(1999, api.Same, "abcdefghijklmnopqr.t")
	accepted(t, f, 1999)
	// Without quotes, parentheses and blanks, this is the length of 1000 names and 999 signs.
	if text := distinct(t, f); len(text) < 1000*20+999*3 || text != plainPrint(f) {
		t.Errorf("H2: %d bytes", len(text))
	}
}
