package graph

import (
	"slices"
	"testing"

	"parterre/api"
)

func TestIndexIsBuiltOnceWhenFirstUsed(t *testing.T) {
	x := &index{gates: [][2]int{{4, 2}, {6, 3}}}
	if x.slots != nil {
		t.Error("built ahead of its use")
	}
	x.find([2]int{6, 3})
	built := slices.Clone(x.slots)
	first := &x.slots[0]
	x.repeats()
	x.find([2]int{4, 2})
	if first != &x.slots[0] || !slices.Equal(built, x.slots) {
		t.Error("built again")
	}
}

func TestIndexIsNotBuiltForRefusedGraphs(t *testing.T) {
	for _, g := range []api.Graph{
		{Inputs: -1},
		{Inputs: 2, Ands: make([][2]int, api.MaxVars)},
		{Inputs: 2, Ands: [][2]int{{2, 4}}},
	} {
		x := &index{gates: g.Ands}
		if right(g, x) || x.slots != nil {
			t.Errorf("built for %d inputs and %d gates", g.Inputs, len(g.Ands))
		}
	}
}

func TestIndexFindsEachGate(t *testing.T) {
	var gates [][2]int
	for i := range api.MaxVars {
		gates = append(gates, [2]int{i, i % 3})
	}
	x := &index{gates: gates}
	for i, gate := range gates {
		if place, ok := x.find(gate); !ok || place != i {
			t.Fatalf("%v: %d %v", gate, place, ok)
		}
		if place, ok := x.find([2]int{gate[0], gate[1] + 3}); ok || place != 0 {
			t.Fatalf("%v isn't there: %d %v", gate, place, ok)
		}
	}
	if x.repeats() {
		t.Error("no two gates are equal")
	}
}

func TestIndexSeesRepeats(t *testing.T) {
	for _, x := range []struct {
		gates [][2]int
		want  bool
	}{
		{nil, false},
		{[][2]int{{4, 2}}, false},
		{[][2]int{{4, 2}, {2, 4}}, false},
		{[][2]int{{4, 2}, {4, 2}}, true},
		{[][2]int{{4, 2}, {5, 2}, {4, 2}}, true},
	} {
		if got := (&index{gates: x.gates}).repeats(); got != x.want {
			t.Errorf("%v: %v", x.gates, got)
		}
	}
}
