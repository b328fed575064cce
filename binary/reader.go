package binary

import (
	"parterre/aag"
	"parterre/api"
)

// reader reads what this format has of its own beside what both formats have.
type reader struct{ aag.Reader }

// parts reads a circuit whose inputs are only counted and whose gates are varints.
func (r *reader) parts() api.Circuit {
	size := r.Head(first)
	c := api.Circuit{Inputs: size[aag.Inputs]}
	for i := range size[aag.Latches] {
		c.Latches = append(c.Latches, r.Latch(literal(c.Inputs+i)))
	}
	r.Signals(size, &c)
	for i := range size[aag.Gates] {
		c.Ands = append(c.Ands, r.gate(literal(c.Inputs+len(c.Latches)+i)))
	}
	c.Names = r.Names()
	return c
}

// gate reads the gate with the literal own. A difference that is too great makes a literal negative, with which no circuit is valid.
func (r *reader) gate(own int) [2]int {
	a := own - r.varint()
	b := a - r.varint()
	return [2]int{a, b}
}

func (r *reader) varint() int {
	n := 0
	for i := range maxBytes {
		digit := int(r.Byte())
		n += digit % more << (i * digitBits)
		if digit < more {
			// A last digit 0 after others would be one digit too many.
			r.Need(digit > 0 || i == 0)
			return n
		}
	}
	r.Need(false)
	return 0
}
