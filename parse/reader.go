package parse

import (
	"strings"

	"parterre/api"
	"parterre/formula"
)

// deepest is the greatest depth at which a formula may begin.
const deepest = 200

const quote = `"`

// fault is what a reading panics with: the error by which it ends, and its position.
type fault struct {
	err api.Errno
	at  int
}

// reader reads tokens from the first one on. Its methods belong inside of read: the first token that can't stand at its place makes them panic, and read recovers.
type reader struct {
	left []api.Token // those that have not been read yet; the end always stays
}

// whole reads the formula of the whole text. Whether it is valid comes last, since a wrong token may follow.
func (r *reader) whole() api.Formula {
	f := r.formula(0)
	r.need(r.left[0].Kind == api.TokEnd)
	if !formula.Right(f) {
		tooLong()
	}
	return f
}

// formula reads a formula of a depth.
func (r *reader) formula(depth int) api.Formula {
	return r.chain("<->", api.Same, r.imply, depth)
}

// imply reads parts with -> between them, of which the last two belong together: all that is behind a sign is one part, which is deeper.
func (r *reader) imply(depth int) api.Formula {
	f := r.or(depth)
	if r.take("->") {
		return of(api.Imply, f, r.imply(depth+1))
	}
	return f
}

func (r *reader) or(depth int) api.Formula {
	return r.chain("|", api.Or, r.and, depth)
}

func (r *reader) and(depth int) api.Formula {
	return r.chain("&", api.And, r.primary, depth)
}

// chain reads parts with a sign between them, of which the first two belong together.
func (r *reader) chain(sign string, kind int, part func(depth int) api.Formula, depth int) api.Formula {
	f := part(depth)
	for r.take(sign) {
		f = of(kind, f, part(depth))
	}
	return f
}

// primary reads a primary formula of a depth. Every formula begins with one of its own depth, so no other place needs to look how deep it is.
func (r *reader) primary(depth int) api.Formula {
	if depth > deepest {
		tooLong()
	}
	switch r.left[0].Text {
	case "true":
		return r.constant(api.True)
	case "false":
		return r.constant(api.False)
	case "!":
		return r.unary(api.Not, depth)
	case "EX":
		return r.unary(api.EX, depth)
	case "AX":
		return r.unary(api.AX, depth)
	case "EF":
		return r.unary(api.EF, depth)
	case "AF":
		return r.unary(api.AF, depth)
	case "EG":
		return r.unary(api.EG, depth)
	case "AG":
		return r.unary(api.AG, depth)
	case "E":
		return r.path(api.EU, api.ER, depth)
	case "A":
		return r.path(api.AU, api.AR, depth)
	case "(":
		return r.enclosed(depth)
	}
	return r.atom()
}

// constant reads a word that is a formula of a kind by itself.
func (r *reader) constant(kind int) api.Formula {
	r.skip()
	return of(kind)
}

// unary reads a word, and the primary formula behind it, of which it makes one of a kind.
func (r *reader) unary(kind, depth int) api.Formula {
	r.skip()
	return of(kind, r.primary(depth+1))
}

// enclosed reads a formula in parentheses.
func (r *reader) enclosed(depth int) api.Formula {
	r.skip()
	f := r.formula(depth + 1)
	r.must(")")
	return f
}

// path reads what begins with E or A. Its kind is until or release, as the word in the brackets says.
func (r *reader) path(until, release, depth int) api.Formula {
	r.skip()
	r.must("[")
	first := r.formula(depth + 1)
	kind := until
	if !r.take("U") {
		r.must("R")
		kind = release
	}
	second := r.formula(depth + 1)
	r.must("]")
	return of(kind, first, second)
}

// atom reads a name. U and R are the only keywords with which no primary formula begins.
func (r *reader) atom() api.Formula {
	next := r.left[0]
	r.need(next.Kind == api.TokName && next.Text != "U" && next.Text != "R")
	r.skip()
	return api.Formula{Kind: api.Atom, Name: strings.Trim(next.Text, quote)}
}

// take skips the next token if its text is the given one, and reports whether it did. No text is given that is empty, so the end stays.
func (r *reader) take(text string) bool {
	taken := r.left[0].Text == text
	if taken {
		r.skip()
	}
	return taken
}

// must skips the next token, whose text must be the given one.
func (r *reader) must(text string) { r.need(r.take(text)) }

func (r *reader) skip() { r.left = r.left[1:] }

// need ends the reading at the next token, unless ok.
func (r *reader) need(ok bool) {
	if !ok {
		panic(fault{err: api.ErrSyntax, at: r.left[0].At})
	}
}

// tooLong ends the reading, wherever it is.
func tooLong() { panic(fault{err: api.ErrLong}) }

// of returns the formula of a kind with given subformulas.
func of(kind int, kids ...api.Formula) api.Formula {
	return api.Formula{Kind: kind, Kids: kids}
}
