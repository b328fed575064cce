package base

import "parterre/api"

// height finds how many levels resolved formulas have. It keeps what it has found: nothing limits how many formulas are in a resolved one, if these stand in few places of the memory.
type height struct {
	rules  table
	levels map[*api.Formula]int
}

// resolved reports whether f is resolved.
func resolved(t table, f *api.Formula) bool {
	h := height{rules: t, levels: map[*api.Formula]int{}}
	return h.of(f, api.MaxDepth) > 0
}

// of returns how many levels f has, or 0 if it is not resolved or has more than most levels. It stops at the first wrong thing, so it ends soon also where a formula contains itself.
func (h height) of(f *api.Formula, most int) int {
	levels := h.levels[f]
	if levels > most || levels == 0 && (most == 0 || !h.fits(f)) {
		return 0
	}
	if levels > 0 {
		return levels
	}
	for i := range f.Kids {
		inside := h.of(&f.Kids[i], most-1)
		if inside == 0 {
			return 0
		}
		levels = max(levels, inside)
	}
	h.levels[f] = levels + 1
	return levels + 1
}

// fits reports whether f is resolved as far as its subformulas are.
func (h height) fits(f *api.Formula) bool {
	if f.Name != "" || f.Lit < 0 || f.Lit > 0 && f.Kind != api.Atom {
		return false
	}
	return h.rules.has(f.Kind, len(f.Kids))
}

// reducer reduces formulas, each place of the memory once. Where a rule has a subformula more than once, or the argument has, so has the result, in the same memory: in memories of their own they could be more than the machine can hold.
type reducer struct {
	rules table
	bases map[*api.Formula]api.Formula
}

// reduce returns Base of f, which is resolved.
func reduce(t table, f *api.Formula) api.Formula {
	r := reducer{rules: t, bases: map[*api.Formula]api.Formula{}}
	return r.of(f)
}

func (r reducer) of(f *api.Formula) api.Formula {
	base, known := r.bases[f]
	if !known {
		base = r.fresh(f)
		r.bases[f] = base
	}
	return base
}

func (r reducer) fresh(f *api.Formula) api.Formula {
	switch len(f.Kids) {
	case 0:
		return r.rules.none[f.Kind](f.Lit)
	case 1:
		return r.rules.one[f.Kind](r.of(&f.Kids[0]))
	}
	return r.rules.two[f.Kind](r.of(&f.Kids[0]), r.of(&f.Kids[1]))
}
