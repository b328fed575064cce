package aag

import (
	"slices"
	"strconv"
	"strings"

	"parterre/api"
	"parterre/circuit"
)

const (
	leastNumbers = Gates + 1 // of the first line
	maxNumber    = 999999    // the greatest number of six digits
	comment      = "c"       // the line behind which anything may follow
)

// fault is what a reading panics with: the error by which it ends.
type fault api.Errno

// Reader reads the text of a circuit from its beginning on. Its methods belong between the beginning and the end of Read: the first wrong thing makes them panic, and Read recovers.
type Reader struct {
	left  string    // what has not been read yet
	wrong api.Errno // what it means if the next thing is wrong
}

// Read returns the circuit that parts reads from s.
func (r *Reader) Read(s string, parts func() api.Circuit) (c api.Circuit, err api.Errno) {
	defer func() {
		if end := recover(); end != nil {
			// A panic that is no fault goes on: it would be a mistake of the program, not of the text.
			c, err = api.Circuit{}, api.Errno(end.(fault))
		}
	}()
	need(len(s) <= api.MaxText, api.ErrLong)
	r.left, r.wrong = s, api.ErrHead
	c = parts()
	need(circuit.Right(c), api.ErrRight)
	return c, api.OK
}

// Need ends the reading, unless ok.
func (r *Reader) Need(ok bool) { need(ok, r.wrong) }

// Byte reads a byte.
func (r *Reader) Byte() byte {
	r.Need(len(r.left) > 0)
	b := r.left[0]
	r.left = r.left[1:]
	return b
}

// Head reads the first line, which begins with the word of the format. From then on whatever is wrong is wrong in its form.
func (r *Reader) Head(format string) Head {
	words := r.words()
	r.Need(words[0] == format)
	words = words[1:]
	r.Need(len(words) >= leastNumbers && len(words) <= numbers)
	var size Head
	for i, word := range words {
		size[i] = r.number(word)
		r.Need(size[i] <= api.MaxVars)
	}
	r.Need(size[Vars] == size[Inputs]+size[Latches]+size[Gates] && size[Justice] == 0)
	r.wrong = api.ErrForm
	return size
}

// Line reads a line that begins with given numbers, and returns the others, of which there are as many as more says.
func (r *Reader) Line(more int, begin ...int) []int {
	line := r.open(begin)
	r.Need(len(line) == more)
	return line
}

// Latch reads the line of the latch with the literal own, behind the numbers with which the line begins in the format.
func (r *Reader) Latch(own int, begin ...int) api.Latch {
	line := r.open(begin)
	r.Need(len(line) == 1 || len(line) == 2)
	latch := api.Latch{Next: line[0]}
	if len(line) == 2 {
		latch.Reset = r.reset(line[1], own)
	}
	return latch
}

// Signals reads the lines of the signals that are literals and no more.
func (r *Reader) Signals(size Head, c *api.Circuit) {
	c.Outputs = r.literals(size[Outputs])
	c.Bads = r.literals(size[Bads])
	c.Constraints = r.literals(size[Constraints])
	c.Fair = r.literals(size[Fair])
}

// Names reads the lines of the names, to the end of the text or to its comment.
func (r *Reader) Names() []api.Name {
	var names []api.Name
	for len(r.left) > 0 {
		line := r.line()
		if line == comment {
			break
		}
		names = append(names, r.name(line))
	}
	return names
}

// line reads a line, and returns it without the byte at its end.
func (r *Reader) line() string {
	var line []byte
	for b := r.Byte(); b != '\n'; b = r.Byte() {
		line = append(line, b)
	}
	return string(line)
}

// words reads a line of at least one word. Two spaces in a row, or one at an end, have an empty word beside them, which is no number.
func (r *Reader) words() []string { return strings.Split(r.line(), " ") }

// open reads a line of numbers that begins with given ones, and returns all others.
func (r *Reader) open(begin []int) []int {
	var line []int
	for _, word := range r.words() {
		line = append(line, r.number(word))
	}
	r.Need(len(line) >= len(begin) && slices.Equal(line[:len(begin)], begin))
	return line[len(begin):]
}

// number returns the number that a word spells. Signs and leading zeros show when it is written again.
func (r *Reader) number(word string) int {
	n, err := strconv.Atoi(word)
	r.Need(err == nil && n >= 0 && n <= maxNumber && strconv.Itoa(n) == word)
	return n
}

// reset returns the Reset that is written as n.
func (r *Reader) reset(n, own int) int {
	if n == own {
		return either
	}
	r.Need(n == 0 || n == 1)
	return n
}

// literals reads so many lines of one literal each.
func (r *Reader) literals(lines int) []int {
	var list []int
	for range lines {
		list = append(list, r.Line(1)...)
	}
	return list
}

// name returns the name that a line holds.
func (r *Reader) name(line string) api.Name {
	signal, text, two := strings.Cut(line, " ")
	r.Need(two && len(signal) > 0 && !strings.Contains(text, " "))
	return api.Name{Kind: signal[0], At: r.number(signal[1:]), Text: text}
}

// need ends the reading with an error, unless ok.
func need(ok bool, err api.Errno) {
	if !ok {
		panic(fault(err))
	}
}
