package token_test

import (
	"fmt"
	"math/rand"
	"regexp"
	"slices"
	"strconv"
	"strings"
	"testing"

	"parterre/api"
	"parterre/token"
)

var (
	plainBlanks = regexp.MustCompile(`\A[ \t\n]+`)
	plainName   = regexp.MustCompile(`\A(?:[a-zA-Z0-9_]+|"[!#-~]+")`)
	plainSign   = regexp.MustCompile(`\A(?:<->|->|!|&|\||\(|\)|\[|\])`)
)

// plainLex is promise G1 read word by word.
func plainLex(s string) ([]api.Token, api.Errno, int) {
	if len(s) > 20000 {
		return nil, api.ErrLong, 0
	}
	var list []api.Token
	rest := s
	for rest != "" {
		at := len(s) - len(rest)
		blanks, name, sign := plainBlanks.FindString(rest), plainName.FindString(rest), plainSign.FindString(rest)
		switch {
		case name != "":
			list = append(list, api.Token{Kind: api.TokName, Text: name, At: at})
		case sign != "":
			list = append(list, api.Token{Kind: api.TokSign, Text: sign, At: at})
		case blanks == "":
			return nil, api.ErrToken, at
		}
		rest = rest[len(blanks+name+sign):]
	}
	return append(list, api.Token{Kind: api.TokEnd, At: len(s)}), api.OK, 0
}

func short(s string) string {
	if len(s) > 100 {
		return strconv.Quote(s[:100]) + ".."
	}
	return strconv.Quote(s)
}

func brief(list []api.Token) string { return short(fmt.Sprint(list)) }

// lexed holds the answer of Lex against tokens, an error and a position.
func lexed(t *testing.T, s string, want []api.Token, err api.Errno, at int) {
	t.Helper()
	if list, e, a := token.Lex(s); e != err || a != at || !slices.Equal(list, want) {
		t.Errorf("G1: %s: %s %d %d, not %s %d %d", short(s), brief(list), e, a, brief(want), err, at)
	}
}

// both holds the answer of Lex against a given one, and so the test's own reading.
func both(t *testing.T, s string, want []api.Token, err api.Errno, at int) {
	t.Helper()
	lexed(t, s, want, err, at)
	if list, e, a := plainLex(s); e != err || a != at || !slices.Equal(list, want) {
		t.Errorf("the test's own reading of %s: %s %d %d", short(s), brief(list), e, a)
	}
}

// asRead holds the answer of Lex against the test's own reading, and returns its error.
func asRead(t *testing.T, s string) api.Errno {
	t.Helper()
	list, err, at := plainLex(s)
	lexed(t, s, list, err, at)
	return err
}

func name(text string, at int) api.Token { return api.Token{Kind: api.TokName, Text: text, At: at} }
func sign(text string, at int) api.Token { return api.Token{Kind: api.TokSign, Text: text, At: at} }
func end(at int) api.Token               { return api.Token{Kind: api.TokEnd, At: at} }

func TestLex(t *testing.T) {
	for _, x := range []struct {
		s    string
		want []api.Token
	}{
		{"", []api.Token{end(0)}},
		{" ", []api.Token{end(1)}},
		{" \t\n\n", []api.Token{end(4)}},
		{"a", []api.Token{name("a", 0), end(1)}},
		{" a\t", []api.Token{name("a", 1), end(3)}},
		{"a b", []api.Token{name("a", 0), name("b", 2), end(3)}},
		{"azAZ09_", []api.Token{name("azAZ09_", 0), end(7)}},
		{"_", []api.Token{name("_", 0), end(1)}},
		{"007", []api.Token{name("007", 0), end(3)}},
		{"0x", []api.Token{name("0x", 0), end(2)}},
		{"EX AGAF true", []api.Token{name("EX", 0), name("AGAF", 3), name("true", 8), end(12)}},
		{`AG(a->"b.c")`, []api.Token{name("AG", 0), sign("(", 2), name("a", 3), sign("->", 4), name(`"b.c"`, 6), sign(")", 11), end(12)}},
		{`"a"`, []api.Token{name(`"a"`, 0), end(3)}},
		{`"!~#}"`, []api.Token{name(`"!~#}"`, 0), end(6)}},
		{`"->"->`, []api.Token{name(`"->"`, 0), sign("->", 4), end(6)}},
		{`"a"b"c"`, []api.Token{name(`"a"`, 0), name("b", 3), name(`"c"`, 4), end(7)}},
		{`a"b"c`, []api.Token{name("a", 0), name(`"b"`, 1), name("c", 4), end(5)}},
		{`"a""b"`, []api.Token{name(`"a"`, 0), name(`"b"`, 3), end(6)}},
		{"<->", []api.Token{sign("<->", 0), end(3)}},
		{"->", []api.Token{sign("->", 0), end(2)}},
		{"<->->", []api.Token{sign("<->", 0), sign("->", 3), end(5)}},
		{"-><->", []api.Token{sign("->", 0), sign("<->", 2), end(5)}},
		{"!!&|()[]", []api.Token{sign("!", 0), sign("!", 1), sign("&", 2), sign("|", 3), sign("(", 4), sign(")", 5), sign("[", 6), sign("]", 7), end(8)}},
		{"a&b|c", []api.Token{name("a", 0), sign("&", 1), name("b", 2), sign("|", 3), name("c", 4), end(5)}},
		{"E[x U\ny]", []api.Token{name("E", 0), sign("[", 1), name("x", 2), name("U", 4), name("y", 6), sign("]", 7), end(8)}},
	} {
		both(t, x.s, x.want, api.OK, 0)
	}
}

func TestLexOfWrongTexts(t *testing.T) {
	for _, x := range []struct {
		s  string
		at int
	}{
		{"?", 0}, {"a ?", 2}, {"a?", 1}, {" \n\t?", 3}, {"a.b", 1}, {"a,b", 1}, {"{a}", 0}, {"a\x00", 1},
		{"-", 0}, {"<", 0}, {">", 0}, {"=", 0}, {"<-", 0}, {"- >", 0}, {"<- >", 0}, {"< ->", 0}, {"<>", 0}, {"<<->", 0}, {"--", 0}, {"-->", 0}, {"->>", 2}, {"a -", 2}, {"a <-", 2}, {"a <-b", 2}, {"<->-", 3}, {"<-><", 3}, {"=>", 0}, {"->=", 2},
		{`"`, 0}, {`""`, 0}, {`"""`, 0}, {`""a"`, 0}, {`"a`, 0}, {`a"`, 1}, {`a "b`, 2}, {`"a"b"`, 4}, {`"a b"`, 0}, {`" a"`, 0}, {`"a "`, 0}, {"\"a\tb\"", 0}, {"\"a\nb\"", 0}, {"\"a\n\"", 0}, {"\"a\x7fb\"", 0}, {"\"\x1f\"", 0}, {"\"\x80\"", 0}, {"\"é\"", 0}, {"\"a\x00\"", 0}, {`a "" b`, 2}, {`"a" "b" "`, 8},
		{"a\rb", 1}, {"\v", 0}, {"\f", 0}, {"é", 0}, {"aé", 1}, {"\u00a0", 0}, {"٣", 0}, {"a\xff", 1}, {"\xc3", 0}, {"->é", 2},
	} {
		both(t, x.s, nil, api.ErrToken, x.at)
		// What stands behind the first error changes nothing, and blanks ahead of it move its position.
		both(t, " \t\n"+x.s+" $", nil, api.ErrToken, 3+x.at)
		both(t, "(a->b)"+x.s+"\x00", nil, api.ErrToken, 6+x.at)
	}
}

// TestBytes tries each byte, and each pair of bytes, alone, between names, and between quotes.
func TestBytes(t *testing.T) {
	count := map[api.Errno]int{}
	for first := range 256 {
		one := string([]byte{byte(first)})
		for _, s := range []string{one, "a" + one + "a", `"` + one + `"`, `"a` + one + `a"`, `"a"` + one, one + `"a"`} {
			count[asRead(t, s)]++
		}
		for second := range 256 {
			two := one + string([]byte{byte(second)})
			for _, s := range []string{two, "a" + two + "a", `"` + two + `"`} {
				count[asRead(t, s)]++
			}
		}
	}
	if len(count) != 2 || count[api.OK] < 10000 || count[api.ErrToken] < 10000 {
		t.Errorf("too little tried: %v", count)
	}
}

// texts calls f with all texts of at most so many pieces.
func texts(pieces []string, most int, f func(s string)) {
	var longer func(s string, left int)
	longer = func(s string, left int) {
		f(s)
		if left == 0 {
			return
		}
		for _, piece := range pieces {
			longer(s+piece, left-1)
		}
	}
	longer("", most)
}

func TestShortTexts(t *testing.T) {
	count := map[api.Errno]int{}
	texts([]string{"<", "-", ">", `"`, "a", " ", "!", "(", "é"}, 5, func(s string) { count[asRead(t, s)]++ })
	if count[api.OK] < 1000 || count[api.ErrToken] < 1000 {
		t.Errorf("too little tried: %v", count)
	}
}

func TestLimit(t *testing.T) {
	for _, n := range []int{19999, 20000} {
		both(t, strings.Repeat("a", n), []api.Token{name(strings.Repeat("a", n), 0), end(n)}, api.OK, 0)
		both(t, strings.Repeat(" ", n), []api.Token{end(n)}, api.OK, 0)
		both(t, strings.Repeat("a", n-1)+"?", nil, api.ErrToken, n-1)
		both(t, strings.Repeat(" ", n-1)+`"`, nil, api.ErrToken, n-1)
		both(t, `"`+strings.Repeat("a", n-1), nil, api.ErrToken, 0)
		quoted := `"` + strings.Repeat("x", n-2) + `"`
		both(t, quoted, []api.Token{name(quoted, 0), end(n)}, api.OK, 0)
		var many []api.Token
		for i := range n {
			many = append(many, sign("!", i))
		}
		both(t, strings.Repeat("!", n), append(many, end(n)), api.OK, 0)
	}
	for _, n := range []int{20001, 20002, 40000, 1 << 20} {
		// The length comes ahead of whatever else may be wrong.
		for _, piece := range []string{"a", " ", "!", "?", `"`, "\xff"} {
			both(t, strings.Repeat(piece, n), nil, api.ErrLong, 0)
		}
	}
}

// apart returns the texts of tokens, separated by blanks.
func apart(list []api.Token, blank string) string {
	var all []string
	for _, x := range list {
		all = append(all, x.Text)
	}
	return strings.Join(all, blank)
}

func unplaced(list []api.Token) []api.Token {
	list = slices.Clone(list)
	for i := range list {
		list[i].At = 0
	}
	return list
}

// separable holds G2 for a text, with blanks of several sorts, and reports whether the text has tokens.
func separable(t *testing.T, s string) bool {
	t.Helper()
	list, err, _ := token.Lex(s)
	if err != api.OK {
		return false
	}
	for _, blank := range []string{" ", "\t", "\n", " \n\t "} {
		again, e, at := token.Lex(apart(list, blank))
		if e != api.OK || at != 0 || !slices.Equal(unplaced(again), unplaced(list)) {
			t.Errorf("G2: %s with %q: %s %d %d, not %s", short(s), blank, brief(again), e, at, brief(list))
		}
	}
	return true
}

func TestSeparated(t *testing.T) {
	count := 0
	texts([]string{"<->", "->", `"a"`, `"->"`, "b", "_", "!", "[", " "}, 5, func(s string) {
		if separable(t, s) {
			count++
		}
	})
	if count < 50000 {
		t.Errorf("only %d texts with tokens", count)
	}
	// With four blanks each, these tokens have exactly as many bytes as a text may have.
	if !separable(t, strings.Repeat("!", 4000)) {
		t.Error("G2: 4000 signs have no tokens")
	}
}

// TestSeparatedBeyondTheLimit: there the separated texts are too long for Lex.
func TestSeparatedBeyondTheLimit(t *testing.T) {
	list, err, _ := token.Lex(strings.Repeat("!", 10001))
	if err != api.OK {
		t.Fatal(err)
	}
	lexed(t, apart(list, " "), nil, api.ErrLong, 0)
}

func TestRandomTexts(t *testing.T) {
	r := rand.New(rand.NewSource(7))
	pieces := []string{"<->", "->", "!", "&", "|", "(", ")", "[", "]", "a", "Z", "0", "_", `"x.y"`, `"<->"`, "EX", " ", "\t", "\n"}
	wrong := []string{"<", "-", ">", `"`, `""`, "\r", "é", "\x00", "."}
	count := map[api.Errno]int{}
	for range 20000 {
		var b strings.Builder
		for range r.Intn(30) {
			if r.Intn(40) == 0 {
				b.WriteString(wrong[r.Intn(len(wrong))])
			} else {
				b.WriteString(pieces[r.Intn(len(pieces))])
			}
		}
		count[asRead(t, b.String())]++
		separable(t, b.String())
	}
	if count[api.OK] < 5000 || count[api.ErrToken] < 3000 {
		t.Errorf("too little tried: %v", count)
	}
}

// TestNoState: an answer is not changed by later calls, nor by who writes into another answer.
func TestNoState(t *testing.T) {
	const s = `a -> "b"`
	want, _, _ := plainLex(s)
	one, _, _ := token.Lex(s)
	two, _, _ := token.Lex(s)
	clear(two)
	token.Lex("x & y | z")
	token.Lex("?")
	if !slices.Equal(one, want) {
		t.Errorf("R4: %s", brief(one))
	}
	lexed(t, s, want, api.OK, 0)
}
