package graph

import (
	"math/bits"
	"sync"
)

// index finds gates by their literals. It is built when it is first asked, and never for a graph that is refused before that.
//
// It is a hash table with open addressing and not a map: each call checks its graph anew, so an index is built for one or two questions, and a map takes several times as long to build.
type index struct {
	gates    [][2]int
	once     sync.Once
	slots    []int // a gate's place plus 1; 0 if the slot is free
	repeated bool
}

// find returns the place of a gate, and whether there is one.
func (x *index) find(gate [2]int) (int, bool) {
	x.once.Do(x.build)
	entry := x.slots[x.slot(gate)]
	if entry == 0 {
		return 0, false
	}
	return entry - 1, true
}

// repeats reports whether two gates are equal.
func (x *index) repeats() bool {
	x.once.Do(x.build)
	return x.repeated
}

// build makes more than twice as many slots as there are gates, so that each search comes to a free one, and soon.
func (x *index) build() {
	x.slots = make([]int, 2<<bits.Len(uint(len(x.gates))))
	for place, gate := range x.gates {
		slot := x.slot(gate)
		if x.slots[slot] != 0 {
			x.repeated = true
			continue
		}
		x.slots[slot] = place + 1
	}
}

// slot returns the slot of a gate, or else the free one where it would be.
func (x *index) slot(gate [2]int) int {
	last := len(x.slots) - 1
	slot := hash(gate) & last
	for x.slots[slot] != 0 && x.gates[x.slots[slot]-1] != gate {
		slot = (slot + 1) & last
	}
	return slot
}

// hash multiplies by the golden ratio's first 32 bits, so that gates with neighbouring literals, which are the usual ones, don't crowd into neighbouring slots; the lower half of the product is dropped, since it hardly depends on the first literal.
func hash(gate [2]int) int {
	const golden = 0x9E3779B9
	key := uint32(gate[0])<<12 ^ uint32(gate[1])
	return int(key * golden >> 16)
}
