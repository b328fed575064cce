package binary

import "parterre/aag"

// writer writes what this format has of its own beside what both formats have.
type writer struct{ aag.Writer }

// gate writes the gate with the literal own. In a valid circuit its literals descend, so no difference is negative.
func (w *writer) gate(own int, gate [2]int) {
	w.varint(own - gate[0])
	w.varint(gate[0] - gate[1])
}

func (w *writer) varint(n int) {
	for n >= more {
		w.Bytes(byte(n%more + more))
		n /= more
	}
	w.Bytes(byte(n))
}
