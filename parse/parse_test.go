package parse_test

import (
	"fmt"
	"math/rand"
	"slices"
	"strconv"
	"strings"
	"testing"

	"parterre/api"
	"parterre/formula"
	"parterre/parse"
	"parterre/token"
)

// unary holds the words that a primary formula follows.
var unary = map[string]int{"!": 4, "EX": 9, "AX": 10, "EF": 11, "AF": 12, "EG": 13, "AG": 14}

// binary holds the kinds of the two operators of each path word.
var binary = map[string]map[string]int{"E": {"U": 15, "R": 17}, "A": {"U": 16, "R": 18}}

func of(kind int, kids ...api.Formula) api.Formula { return api.Formula{Kind: kind, Kids: kids} }

func atom(name string) api.Formula { return api.Formula{Kind: api.Atom, Name: name} }

// context is what a formula stands in: the whole text, parentheses, or the brackets of a path word, ahead of U or R and behind it.
type context struct {
	end    string // what ends it
	depth  int    // of the formula
	arrows int    // how many -> there are behind the last <->
}

// beginning goes through tokens one by one, and knows at each whether it can stand at its place, as an automaton with a stack. It returns the first token that can't, or -1, and whether a formula that is too deep would begin ahead of that token or at it.
func beginning(list []api.Token) (wrong int, deep bool) {
	stack := []context{{end: ""}}
	operand, prefixes, bracket := true, 0, false
	for i, x := range list {
		top := &stack[len(stack)-1]
		depth := top.depth + top.arrows + prefixes
		name := x.Kind == api.TokName
		switch {
		case bracket:
			if x.Text != "[" {
				return i, deep
			}
			bracket = false
			stack = append(stack, context{end: "UR", depth: depth + 1})
			prefixes = 0
			continue
		case operand:
			deep = deep || depth > 200
			switch {
			case unary[x.Text] != 0:
				prefixes++
			case binary[x.Text] != nil:
				bracket = true
			case x.Text == "(":
				stack = append(stack, context{end: ")", depth: depth + 1})
				prefixes = 0
			case name && x.Text != "U" && x.Text != "R":
				operand, prefixes = false, 0
			default:
				return i, deep
			}
			continue
		}
		switch {
		case x.Text == "<->":
			top.arrows = 0
			operand = true
		case x.Text == "->":
			top.arrows++
			operand = true
		case x.Text == "&" || x.Text == "|":
			operand = true
		case top.end == "UR" && (x.Text == "U" || x.Text == "R"):
			*top = context{end: "]", depth: top.depth}
			operand = true
		case x.Text == top.end && x.Kind != api.TokEnd:
			stack = stack[:len(stack)-1]
		case x.Kind == api.TokEnd && len(stack) == 1:
		default:
			return i, deep
		}
	}
	return -1, deep
}

// outside returns the places in a list where a token stands that is in no parentheses and brackets.
func outside(list []api.Token, words ...string) []int {
	var places []int
	inside := 0
	for i, x := range list {
		switch x.Text {
		case "(", "[":
			inside++
		case ")", "]":
			inside--
		}
		if inside == 0 && slices.Contains(words, x.Text) {
			places = append(places, i)
		}
	}
	return places
}

// plainFormula returns the formula that right tokens mean: it divides them where the operator stands that binds least.
func plainFormula(list []api.Token) api.Formula {
	for _, x := range []struct {
		sign  string
		kind  int
		first bool
	}{{"<->", 8, false}, {"->", 7, true}, {"|", 6, false}, {"&", 5, false}} {
		if places := outside(list, x.sign); len(places) > 0 {
			place := places[len(places)-1]
			if x.first {
				place = places[0]
			}
			return of(x.kind, plainFormula(list[:place]), plainFormula(list[place+1:]))
		}
	}
	word, last := list[0].Text, len(list)-1
	switch {
	case unary[word] != 0:
		return of(unary[word], plainFormula(list[1:]))
	case word == "(":
		return plainFormula(list[1:last])
	case binary[word] != nil:
		inner := list[2:last]
		place := outside(inner, "U", "R")[0]
		return of(binary[word][inner[place].Text], plainFormula(inner[:place]), plainFormula(inner[place+1:]))
	case word == "false":
		return of(1)
	case word == "true":
		return of(2)
	case word[0] == '"':
		return atom(word[1 : len(word)-1])
	}
	return atom(word)
}

// plainParse is promise J1 read word by word.
func plainParse(s string) (api.Formula, api.Errno, int) {
	list, err, at := token.Lex(s)
	if err != api.OK {
		return api.Formula{}, err, at
	}
	wrong, deep := beginning(list)
	switch {
	case deep:
		return api.Formula{}, api.ErrLong, 0
	case wrong >= 0:
		return api.Formula{}, api.ErrSyntax, list[wrong].At
	}
	f := plainFormula(list[:len(list)-1])
	if !formula.Right(f) {
		return api.Formula{}, api.ErrLong, 0
	}
	return f, api.OK, 0
}

func short(x any) string {
	text := fmt.Sprint(x)
	if len(text) > 200 {
		return strconv.Quote(text[:200]) + ".."
	}
	return strconv.Quote(text)
}

// equal compares without the package that the answers may come from.
func equal(a, b api.Formula) bool {
	return a.Kind == b.Kind && a.Name == b.Name && a.Lit == b.Lit && slices.EqualFunc(a.Kids, b.Kids, equal)
}

func answers(t *testing.T, s string, want api.Formula, err api.Errno, at int) {
	t.Helper()
	if f, e, a := parse.Parse(s); e != err || a != at || !equal(f, want) {
		t.Errorf("J1: %s: %s %d %d, not %s %d %d", short(s), short(f), e, a, short(want), err, at)
	}
}

// both holds the answer of Parse against a given one, and so the test's own reading.
func both(t *testing.T, s string, want api.Formula, err api.Errno, at int) {
	t.Helper()
	answers(t, s, want, err, at)
	if f, e, a := plainParse(s); e != err || a != at || !equal(f, want) {
		t.Errorf("the test's own reading of %s: %s %d %d", short(s), short(f), e, a)
	}
}

func parsed(t *testing.T, s string, want api.Formula) {
	t.Helper()
	both(t, s, want, api.OK, 0)
}

func refused(t *testing.T, s string, err api.Errno, at int) {
	t.Helper()
	both(t, s, api.Formula{}, err, at)
}

// asRead holds the answer of Parse against the test's own reading, and returns its error.
func asRead(t *testing.T, s string) api.Errno {
	t.Helper()
	f, err, at := plainParse(s)
	answers(t, s, f, err, at)
	return err
}

func TestPrimaries(t *testing.T) {
	a, b := atom("a"), atom("b")
	for s, want := range map[string]api.Formula{
		"true": of(2), "false": of(1), "a": a, "(a)": a, "((a))": a, " ( a ) ": a, "0": atom("0"), "_": atom("_"), "007": atom("007"),
		`"a"`: a, `"a.b"`: atom("a.b"), `"!"`: atom("!"), `"->"`: atom("->"), `"a'b"`: atom("a'b"), `"(a)"`: atom("(a)"),
		"!a": of(4, a), "EX a": of(9, a), "AX a": of(10, a), "EF a": of(11, a), "AF a": of(12, a), "EG a": of(13, a), "AG a": of(14, a),
		"E [a U b]": of(15, a, b), "A [a U b]": of(16, a, b), "E [a R b]": of(17, a, b), "A [a R b]": of(18, a, b), "E[a U b]": of(15, a, b), "A\n[\ta R\tb\n]": of(18, a, b),
		"!!a": of(4, of(4, a)), "!EX AF !a": of(4, of(9, of(12, of(4, a)))), "EX(a)": of(9, a), "EX!a": of(9, of(4, a)), "EXa": atom("EXa"), "EX1": atom("EX1"), "EX EX1": of(9, atom("EX1")), "AG_": atom("AG_"),
		"EG E [a U b]": of(13, of(15, a, b)), "!A [!a R EX b]": of(4, of(18, of(4, a), of(9, b))),
		"E [A [a R b] U E [b U a]]": of(15, of(18, a, b), of(15, b, a)), "E [(a) U ((b))]": of(15, a, b),
		"trueish": atom("trueish"), "True": atom("True"), "TRUE": atom("TRUE"), "e": atom("e"), "u": atom("u"), "UR": atom("UR"), "EU": atom("EU"), "AR": atom("AR"), "EA": atom("EA"), "GF": atom("GF"), "ex": atom("ex"), "U1": atom("U1"), "X": atom("X"),
	} {
		parsed(t, s, want)
	}
	// Between quotes a keyword is a name as any other.
	for _, word := range strings.Fields("true false E A EX AX EF AF EG AG U R") {
		quoted := `"` + word + `"`
		parsed(t, quoted, atom(word))
		parsed(t, "!"+quoted, of(4, atom(word)))
		parsed(t, "E ["+quoted+" U "+quoted+"]", of(15, atom(word), atom(word)))
		refused(t, quoted+"[a U b]", api.ErrSyntax, len(quoted))
		refused(t, quoted+" a", api.ErrSyntax, len(quoted)+1)
		refused(t, "E [a "+quoted+" b]", api.ErrSyntax, 5)
	}
}

func TestOperators(t *testing.T) {
	a, b, c, d := atom("a"), atom("b"), atom("c"), atom("d")
	and, or, imply, same := 5, 6, 7, 8
	for s, want := range map[string]api.Formula{
		"a & b": of(and, a, b), "a | b": of(or, a, b), "a -> b": of(imply, a, b), "a <-> b": of(same, a, b), "a&b": of(and, a, b), "a<->b": of(same, a, b),
		"a & b & c":     of(and, of(and, a, b), c),
		"a | b | c":     of(or, of(or, a, b), c),
		"a -> b -> c":   of(imply, a, of(imply, b, c)),
		"a <-> b <-> c": of(same, of(same, a, b), c),
		"a & b & c & d": of(and, of(and, of(and, a, b), c), d), "a -> b -> c -> d": of(imply, a, of(imply, b, of(imply, c, d))),
		"a & (b & c)": of(and, a, of(and, b, c)), "(a -> b) -> c": of(imply, of(imply, a, b), c), "a <-> (b <-> c)": of(same, a, of(same, b, c)), "a | (b | c)": of(or, a, of(or, b, c)),
		"a & b | c": of(or, of(and, a, b), c), "a | b & c": of(or, a, of(and, b, c)), "(a | b) & c": of(and, of(or, a, b), c), "a & (b | c)": of(and, a, of(or, b, c)),
		"a & b -> c": of(imply, of(and, a, b), c), "a -> b & c": of(imply, a, of(and, b, c)), "a | b -> c": of(imply, of(or, a, b), c), "a -> b | c": of(imply, a, of(or, b, c)),
		"a & b <-> c": of(same, of(and, a, b), c), "a <-> b | c": of(same, a, of(or, b, c)), "a -> b <-> c": of(same, of(imply, a, b), c), "a <-> b -> c": of(same, a, of(imply, b, c)),
		"a -> b <-> c -> d": of(same, of(imply, a, b), of(imply, c, d)), "a -> (b <-> c) -> d": of(imply, a, of(imply, of(same, b, c), d)),
		"a <-> b -> c <-> d": of(same, of(same, a, of(imply, b, c)), d), "a & b | c & d": of(or, of(and, a, b), of(and, c, d)), "a | b & c | d": of(or, of(or, a, of(and, b, c)), d),
		"a -> b -> c | d & a": of(imply, a, of(imply, b, of(or, c, of(and, d, a)))),
		"!a & b":              of(and, of(4, a), b), "!(a & b)": of(4, of(and, a, b)), "EX a | b": of(or, of(9, a), b), "a & AG b -> c": of(imply, of(and, a, of(14, b)), c), "AG (a -> AF b)": of(14, of(imply, a, of(12, b))),
		"E [a & b U c | d]":               of(15, of(and, a, b), of(or, c, d)),
		"A [a -> b R c -> d]":             of(18, of(imply, a, b), of(imply, c, d)),
		"E [a U b] & A [c R d]":           of(and, of(15, a, b), of(18, c, d)),
		"A [a <-> b U c <-> d] -> true":   of(imply, of(16, of(same, a, b), of(same, c, d)), of(2)),
		"E [a U b] -> E [a R b] -> false": of(imply, of(15, a, b), of(imply, of(17, a, b), of(1))),
	} {
		parsed(t, s, want)
	}
}

func TestWrongTokens(t *testing.T) {
	for s, at := range map[string]int{
		"": 0, " ": 1, "\n\t ": 3, "U": 0, "R": 0, "&": 0, "|": 0, "->": 0, "<->": 0, ")": 0, "[": 0, "]": 0, "U a": 0, "R & a": 0, "& a": 0, "[a]": 0, " )": 1, "()": 1, "( )": 2, "(": 1, "((": 2, "(()": 2,
		"a b": 2, "a true": 2, "true false": 5, "a EX b": 2, "a !b": 2, "a (b)": 2, "(a) b": 4, "(a)(b)": 3, "a E [a U b]": 2, "a [": 2, "a ]": 2, "a )": 2, "a U": 2, "a U b": 2, "a R b": 2, `a "b"`: 2, `"a""b"`: 3, "! a b": 4, "EX a b": 5, "false !": 6,
		"a &": 3, "a & ": 4, "a & &": 4, "a && b": 3, "a || b": 3, "a & | b": 4, "a -> -> b": 5, "a -> <-> b": 5, "a <-> & b": 6, "a & )": 4, "a & U": 4, "a -> ": 5, "a <->": 5, "a & b |": 7, "a | b c": 6, "a -> b c": 7,
		"!": 1, "!!": 2, "! &": 2, "!)": 1, "!U": 1, "EX": 2, "EX ": 3, "EX EX": 5, "EX & a": 3, "AG )": 3, "AF -> a": 3, "EF [": 3, "EX [a U b]": 3, "AG A": 4, "! -> a": 2, "EX U": 3,
		"(a": 2, "(a b)": 3, "(a &)": 4, "(a]": 2, "(a U b)": 3, "a)": 1, "(a))": 3, "((a)": 4, "(a) )": 4, "(a R": 3,
		"E": 1, "A": 1, "E a": 2, "A (a U b)": 2, "E E": 2, "E U": 2, "A ]": 2, "E EX a": 2, "A -> a": 2, "E !": 2, `E "["`: 2, "E [": 3, "E []": 3, "E [U b]": 3, "E [a": 4, "E [a]": 4, "E [a)": 4, "E [a b": 5, "E [a &": 6, "E [a & U": 7, "E [a U": 6, "E [a U]": 6, "E [a U U": 7, "E [a U b": 8, "E [a U b)": 8, "E [a U b U c]": 9, "E [a U b R c]": 9, "E [a R b U c]": 9, "E [a U b c]": 9, "E [a U b &]": 10, "E [a U b]]": 9, "E [a U b] c": 10, "A [(a U b)]": 6, "A [(a) & (b U": 12, "E [A [a U b] U": 14, "E [A [a U b]]": 12, "E [A [a U b U c]": 12,
	} {
		refused(t, s, api.ErrSyntax, at)
	}
}

// TestErrorsOfTokens: what is no token counts, wherever it stands, ahead of every token at a wrong place.
func TestErrorsOfTokens(t *testing.T) {
	for s, at := range map[string]int{"$": 0, "a $": 2, "a b $": 4, ")) $": 3, "a &\n?": 4, `"`: 0, `""`: 0, `a & "b c"`: 4, "a <- b": 2, "a - b": 2, "(((((é": 5, "E [a, b]": 4, strings.Repeat("!", 300) + ".": 300} {
		refused(t, s, api.ErrToken, at)
	}
	for _, s := range []string{strings.Repeat(" ", 20001), strings.Repeat(")", 20001), strings.Repeat("$", 20001), "a" + strings.Repeat(" ", 20000)} {
		refused(t, s, api.ErrLong, 0)
	}
	parsed(t, "a"+strings.Repeat(" ", 19999), atom("a"))
	parsed(t, strings.Repeat("\n", 19999)+"a", atom("a"))
	refused(t, strings.Repeat(" ", 20000), api.ErrSyntax, 20000)
	refused(t, "a"+strings.Repeat(" ", 19998)+"b", api.ErrSyntax, 19999)
}

// opened is a beginning of a text that makes what follows deeper, by so many levels, and what may end it.
type opened struct {
	begin, end string
	levels     int
}

var openers = []opened{
	{"(", ")", 1}, {"!", "", 1}, {"EX ", "", 1}, {"AX ", "", 1}, {"EF ", "", 1}, {"AF ", "", 1}, {"EG ", "", 1}, {"AG ", "", 1},
	{"E [", " U b]", 1}, {"A [", " R b]", 1}, {"E [a U ", "]", 1}, {"A [a R ", "]", 1}, {"a -> ", "", 1},
	{"!(", ")", 2}, {"b & (", ")", 1}, {"(a | ", ")", 1}, {"a <-> a -> ", "", 0}, {"a & b | c -> ", "", 1}, {"EX A [a -> ", " U a]", 3},
}

// TestDepth puts n levels around the least formulas and around wrong tokens.
func TestDepth(t *testing.T) {
	for _, x := range openers {
		for _, levels := range []int{1, 60, 198, 199, 200, 201, 202, 203, 300} {
			n := levels
			if x.levels > 0 {
				n = levels / x.levels
			}
			begin, end := strings.Repeat(x.begin, n), strings.Repeat(x.end, n)
			deep := n*x.levels > 200
			for _, rest := range []string{"a" + end, "true" + end, "a" + end + ")", "a" + end + " $"} {
				if asRead(t, begin+rest) == api.OK && deep {
					t.Errorf("the test's own reading of %s", short(begin+rest))
				}
			}
			// Each of these wrong tokens stands where a formula would begin.
			for _, wrong := range []string{"", ")", "]", "&", "U", "[", "<->"} {
				if deep {
					refused(t, begin+wrong, api.ErrLong, 0)
				} else {
					refused(t, begin+wrong, api.ErrSyntax, len(begin))
				}
			}
		}
	}
}

// TestDepthIsOfBeginnings: what ends ahead of a formula that would be too deep is wrong in itself.
func TestDepthIsOfBeginnings(t *testing.T) {
	at := strings.Repeat("(", 200)
	for rest, wrong := range map[string]int{"a b": 202, "E": 201, "E )": 202, "A (": 202, "A a": 202, "a ->": -1, "a -> )": -1, "!": -1, "! )": -1, "(": -1, "E [": -1, "E [ )": -1, "EX": -1, "a & b) -> ": 210, "a) -> )": 206, "a <-> ": 206, "a & ": 204, "a & !": -1, "a ] -> ": 202, "a & b | c <-> d": 215, "a) -> b -> c": -1, "a) -> b <-> c -> ": 217, "a)) -> (": 208, "a)) -> b -> (": -1} {
		if wrong < 0 {
			refused(t, at+rest, api.ErrLong, 0)
		} else {
			refused(t, at+rest, api.ErrSyntax, wrong)
		}
	}
	// A wrong token ahead of what would be too deep counts first.
	refused(t, ") "+strings.Repeat("(", 300), api.ErrSyntax, 0)
	refused(t, "a "+strings.Repeat("!", 300), api.ErrSyntax, 2)
	refused(t, at+"a b"+strings.Repeat("(", 300), api.ErrSyntax, 202)
	// The deepest formula of a text need not be its last.
	refused(t, strings.Repeat("(", 201)+"a"+strings.Repeat(")", 201)+" b", api.ErrLong, 0)
	refused(t, "("+strings.Repeat("!", 200)+"a) b", api.ErrLong, 0)
	parsed(t, at+"a"+strings.Repeat(")", 200)+" & b", of(5, atom("a"), atom("b")))
	parsed(t, "b <-> "+at+"a"+strings.Repeat(")", 200), of(8, atom("b"), atom("a")))
	refused(t, "b -> "+at+"a"+strings.Repeat(")", 200), api.ErrLong, 0)
	// What is behind <-> is as deep as what is ahead of it, however many -> there are.
	parsed(t, strings.Repeat("a -> ", 50)+"a <-> "+at+"a"+strings.Repeat(")", 200), plain(strings.Repeat("a -> ", 50)+"a <-> a"))
}

// plain returns the formula of a right text in the test's own reading.
func plain(s string) api.Formula {
	f, _, _ := plainParse(s)
	return f
}

// TestValidity: a formula may be right in its syntax and yet too big.
func TestValidity(t *testing.T) {
	for _, sign := range []string{" & ", " | ", " -> ", " <-> "} {
		parsed(t, strings.Repeat("a"+sign, 59)+"a", plain(strings.Repeat("a"+sign, 59)+"a"))
		refused(t, strings.Repeat("a"+sign, 60)+"a", api.ErrLong, 0)
		refused(t, strings.Repeat("a"+sign, 60)+"a b", api.ErrSyntax, 60*(len(sign)+1)+2)
		refused(t, strings.Repeat("a"+sign, 180)+"a", api.ErrLong, 0)
		// Each -> is a level more, and no other operator is one.
		if long := strings.Repeat("a"+sign, 2000); sign == " -> " {
			refused(t, long, api.ErrLong, 0)
		} else {
			refused(t, long, api.ErrSyntax, len(long))
			refused(t, long+"a", api.ErrLong, 0)
		}
	}
	for _, word := range []string{"!", "EX ", "AG "} {
		parsed(t, strings.Repeat(word, 59)+"a", plain(strings.Repeat(word, 59)+"a"))
		refused(t, strings.Repeat(word, 60)+"a", api.ErrLong, 0)
		refused(t, strings.Repeat(word, 60)+")", api.ErrSyntax, 60*len(word))
	}
	for n, name := range map[int]string{20: strings.Repeat("a", 20), 21: strings.Repeat("a", 21), 18000: strings.Repeat("a", 18000)} {
		for _, text := range []string{name, `"` + name + `"`} {
			if n == 20 {
				parsed(t, text, atom(name))
				parsed(t, "!"+text+" & b", of(5, of(4, atom(name)), atom("b")))
			} else {
				refused(t, text, api.ErrLong, 0)
				refused(t, "EX (b | "+text+")", api.ErrLong, 0)
			}
			refused(t, text+")", api.ErrSyntax, len(text))
		}
	}
	most := wide(2000)
	parsed(t, most, plain(most))
	if formula.Size(plain(most)) != 2000 {
		t.Errorf("the test's own formula has the size %d", formula.Size(plain(most)))
	}
	refused(t, wide(2001), api.ErrLong, 0)
	refused(t, wide(2001)+" a", api.ErrSyntax, len(wide(2001))+1)
	refused(t, wide(2500), api.ErrLong, 0)
}

// wide returns the text of a formula with n formulas that is not deep.
func wide(n int) string {
	switch n {
	case 1:
		return "a"
	case 2:
		return "!a"
	}
	return "(" + wide((n-1)/2) + ")&(" + wide(n-1-(n-1)/2) + ")"
}

// texts calls f with all texts of at most so many pieces.
func texts(pieces []string, most int, f func(s string)) {
	var longer func(s string, left int)
	longer = func(s string, left int) {
		f(s)
		if left == 0 {
			return
		}
		for _, piece := range pieces {
			longer(s+piece, left-1)
		}
	}
	longer("", most)
}

func TestShortTexts(t *testing.T) {
	count := map[api.Errno]int{}
	texts([]string{"a ", "true ", `"U" `, "! ", "EX ", "E ", "[ ", "] ", "U ", "R ", "( ", ") ", "& ", "| ", "-> ", "<-> "}, 5, func(s string) { count[asRead(t, s)]++ })
	// Longer ones with fewer different tokens.
	texts([]string{"a ", "A [ ", "] ", "U ", "( ", ") ", "-> "}, 7, func(s string) { count[asRead(t, s)]++ })
	texts([]string{"a", "&", "|", "->", "<->", "!"}, 7, func(s string) { count[asRead(t, s)]++ })
	if count[api.OK] < 2000 || count[api.ErrSyntax] < 1000000 {
		t.Errorf("too little tried: %v", count)
	}
}

// TestLongChains tries all chains of at most seven operators.
func TestLongChains(t *testing.T) {
	tried := 0
	texts([]string{"&a", "|b", "->c", "<->d"}, 7, func(s string) {
		if asRead(t, "a"+s) == api.OK {
			tried++
		}
	})
	if tried < 20000 {
		t.Errorf("too little tried: %d", tried)
	}
}

// randomText returns the text of a formula of at most so many levels, with more parentheses and blanks than are needed.
func randomText(r *rand.Rand, levels int) string {
	if levels <= 1 || r.Intn(8) == 0 {
		return []string{"a", "b1", "true", "false", `"E"`, `"x.y"`, "c"}[r.Intn(7)]
	}
	blank := []string{"", " ", "\n", "\t  "}[r.Intn(4)]
	switch n := r.Intn(12); n {
	case 0:
		return "!" + blank + primary(r, levels-1)
	case 1, 2:
		return []string{"EX", "AX", "EF", "AF", "EG", "AG"}[r.Intn(6)] + " " + blank + primary(r, levels-1)
	case 3, 4:
		word, middle := []string{"E", "A"}[r.Intn(2)], []string{" U ", " R "}[r.Intn(2)]
		return word + blank + "[" + blank + randomText(r, levels-1) + blank + middle + randomText(r, levels-1) + "]" + blank
	case 5:
		return "(" + blank + randomText(r, levels-1) + ")"
	}
	sign := []string{"&", "|", "->", "<->"}[r.Intn(4)]
	return randomText(r, levels-1) + blank + sign + blank + randomText(r, levels-1)
}

// primary returns the text of a primary formula.
func primary(r *rand.Rand, levels int) string {
	s := randomText(r, levels)
	list, _, _ := token.Lex(s)
	if len(outside(list, "&", "|", "->", "<->")) > 0 {
		return "(" + s + ")"
	}
	return s
}

// spoiled returns s with one token changed, left out, or put in.
func spoiled(r *rand.Rand, s string) string {
	list, _, _ := token.Lex(s)
	i := r.Intn(len(list))
	at := list[i].At
	piece := []string{" a ", "!", " EX ", " E ", "[", "]", " U ", " R ", "(", ")", "&", "|", "->", "<->", " E [", "]]"}[r.Intn(16)]
	switch r.Intn(3) {
	case 0:
		return s[:at] + s[at+len(list[i].Text):]
	case 1:
		return s[:at] + piece + s[at:]
	}
	return s[:at] + piece + s[at+len(list[i].Text):]
}

func TestRandomTexts(t *testing.T) {
	r := rand.New(rand.NewSource(9))
	count := map[api.Errno]int{}
	for i := range 60000 {
		s := randomText(r, 1+i%8)
		count[asRead(t, s)]++
		count[asRead(t, spoiled(r, s))]++
		count[asRead(t, spoiled(r, spoiled(r, s)))]++
	}
	if count[api.OK] < 60000 || count[api.ErrSyntax] < 40000 {
		t.Errorf("too little tried: %v", count)
	}
}

// TestRandomDepths puts random levels, some two hundred of them, around random texts, right and wrong ones.
func TestRandomDepths(t *testing.T) {
	r := rand.New(rand.NewSource(10))
	count := map[api.Errno]int{}
	for range 2500 {
		begin, end, levels := "", "", 0
		for most := 190 + r.Intn(14); levels < most; {
			x := openers[r.Intn(len(openers))]
			begin, end = begin+x.begin, x.end+end
			levels += x.levels
		}
		s := begin + randomText(r, 1+r.Intn(4)) + end
		count[asRead(t, s)]++
		count[asRead(t, spoiled(r, s))]++
		count[asRead(t, s[:r.Intn(len(s))])]++
		// With parentheses only, what is deep can be right.
		n := 195 + r.Intn(10)
		inner := randomText(r, 1+r.Intn(4))
		s = strings.Repeat("(", n) + inner + strings.Repeat(")", n)
		count[asRead(t, s)]++
		count[asRead(t, s+" & "+inner)]++
		count[asRead(t, spoiled(r, s))]++
	}
	if count[api.OK] < 1000 || count[api.ErrSyntax] < 1000 || count[api.ErrLong] < 1000 {
		t.Errorf("too little tried: %v", count)
	}
}

// random returns a valid formula of at most so many levels.
func random(r *rand.Rand, levels int) api.Formula {
	kind := 1 + r.Intn(18)
	if levels == 1 {
		kind = 1 + r.Intn(3)
	}
	kids := 2
	switch {
	case kind == api.Atom:
		return atom([]string{"a", "b", "a.b", "E", "U", "true", "0", "_", "l1", "(a", "a)", "!a", "a&b", "<->", "[", "]", strings.Repeat("R", 20), "'"}[r.Intn(18)])
	case kind < api.Atom:
		kids = 0
	case kind == 4 || kind >= 9 && kind <= 14:
		kids = 1
	}
	f := of(kind)
	for range kids {
		f.Kids = append(f.Kids, random(r, levels-1))
	}
	return f
}

// undone holds that f comes back from its text.
func undone(t *testing.T, f api.Formula) string {
	t.Helper()
	s, err := formula.Print(f)
	if err != api.OK {
		t.Fatalf("the test's own formula %s is not valid", short(f))
	}
	if again, e, at := parse.Parse(s); e != api.OK || at != 0 || !formula.Same(again, f) {
		t.Errorf("J2: %s: %s %d %d", short(s), short(again), e, at)
	}
	return s
}

func TestUndoesPrint(t *testing.T) {
	r := rand.New(rand.NewSource(11))
	kinds := map[int]int{}
	for i := range 20000 {
		f := random(r, 1+i%9)
		if formula.Right(f) {
			undone(t, f)
			kinds[f.Kind]++
		}
	}
	if len(kinds) != 18 {
		t.Errorf("too little tried: %v", kinds)
	}
	// The deepest formulas there are, of each kind with subformulas, at each place.
	for kind := 4; kind <= 18; kind++ {
		for _, inner := range []api.Formula{atom("a"), atom("R")} {
			first, second, mixed := inner, inner, inner
			for i := range 59 {
				if kind == 4 || kind >= 9 && kind <= 14 {
					first, second, mixed = of(kind, first), of(kind, second), of([]int{kind, 4}[i%2], mixed)
					continue
				}
				first, second = of(kind, first, inner), of(kind, inner, second)
				mixed = of([]int{kind, 7}[i%2], inner, mixed)
			}
			undone(t, first)
			undone(t, second)
			undone(t, mixed)
		}
	}
}

// TestBlanksAndParentheses: neither makes a difference (J2).
func TestBlanksAndParentheses(t *testing.T) {
	r := rand.New(rand.NewSource(12))
	tried := 0
	for i := range 20000 {
		s := randomText(r, 1+i%7)
		f, err, _ := parse.Parse(s)
		if err != api.OK {
			continue
		}
		tried++
		for _, other := range []string{" " + s + "\n", "(" + s + ")", "( (\t" + s + ") )", apart(r, s), enclosed(r, s)} {
			if g, e, at := parse.Parse(other); e != api.OK || at != 0 || !equal(f, g) {
				t.Errorf("J2: %s is %s, and %s is %s %d %d", short(s), short(f), short(other), short(g), e, at)
			}
		}
	}
	if tried < 15000 {
		t.Errorf("too little tried: %d", tried)
	}
}

// apart returns the tokens of s with random blanks between them.
func apart(r *rand.Rand, s string) string {
	list, _, _ := token.Lex(s)
	var all strings.Builder
	for _, x := range list {
		all.WriteString([]string{" ", "\t", "\n", " \n\t "}[r.Intn(4)] + x.Text)
	}
	return all.String()
}

// enclosed returns s with parentheses around some names in it.
func enclosed(r *rand.Rand, s string) string {
	list, _, _ := token.Lex(s)
	var all strings.Builder
	for _, x := range list {
		if x.Kind == api.TokName && (x.Text[0] == '"' || x.Text[0] >= 'a') && r.Intn(2) == 0 {
			all.WriteString(" (" + x.Text + ") ")
		} else {
			all.WriteString(x.Text + " ")
		}
	}
	return all.String()
}

// TestAnyBytes: whatever the text, there is an answer.
func TestAnyBytes(t *testing.T) {
	const alphabet = "  aab!&|()[]<->EAUXGR\"\n\x00\xff"
	r := rand.New(rand.NewSource(13))
	count := map[api.Errno]int{}
	for range 100000 {
		bytes := make([]byte, r.Intn(12))
		for i := range bytes {
			bytes[i] = alphabet[r.Intn(len(alphabet))]
		}
		count[asRead(t, string(bytes))]++
	}
	if count[api.ErrToken] < 10000 || count[api.ErrSyntax] < 10000 || count[api.OK] < 100 {
		t.Errorf("too little tried: %v", count)
	}
}
