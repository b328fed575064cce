package aag

import (
	"slices"
	"strconv"

	"parterre/api"
)

// Writer collects the text of a valid circuit.
type Writer struct{ text []byte }

// Text returns what has been written.
func (w *Writer) Text() string { return string(w.text) }

// Bytes writes bytes as they are.
func (w *Writer) Bytes(bytes ...byte) { w.text = append(w.text, bytes...) }

// Line writes a line of numbers.
func (w *Writer) Line(line ...int) {
	for i, n := range line {
		if i > 0 {
			w.Bytes(' ')
		}
		w.number(n)
	}
	w.Bytes('\n')
}

// Head writes the first line: the word of the format, and the numbers.
func (w *Writer) Head(format string, c api.Circuit) {
	size := Head{
		Vars:        c.Inputs + len(c.Latches) + len(c.Ands),
		Inputs:      c.Inputs,
		Latches:     len(c.Latches),
		Outputs:     len(c.Outputs),
		Gates:       len(c.Ands),
		Bads:        len(c.Bads),
		Constraints: len(c.Constraints),
		Fair:        len(c.Fair),
	}
	w.Bytes([]byte(format)...)
	w.Bytes(' ')
	w.Line(size[:]...)
}

// Latch writes the line of the latch with the literal own, behind the numbers with which the line begins in the format.
func (w *Writer) Latch(latch api.Latch, own int, begin ...int) {
	line := append(slices.Clone(begin), latch.Next)
	switch latch.Reset {
	case 1:
		line = append(line, 1)
	case either:
		line = append(line, own)
	}
	w.Line(line...)
}

// Signals writes the lines of the signals that are literals and no more.
func (w *Writer) Signals(c api.Circuit) {
	for _, list := range [][]int{c.Outputs, c.Bads, c.Constraints, c.Fair} {
		for _, l := range list {
			w.Line(l)
		}
	}
}

// Names writes the lines of the names.
func (w *Writer) Names(names []api.Name) {
	for _, name := range names {
		w.Bytes(name.Kind)
		w.number(name.At)
		w.Bytes(' ')
		w.Bytes([]byte(name.Text)...)
		w.Bytes('\n')
	}
}

func (w *Writer) number(n int) { w.text = strconv.AppendInt(w.text, int64(n), 10) }
