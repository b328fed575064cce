package base

import "parterre/api"

// table holds what Base of a formula is: for each number of subformulas a map by the kinds that have so many, of functions of what Base of the subformulas is.
type table struct {
	none map[int]func(lit int) api.Formula
	one  map[int]func(a api.Formula) api.Formula
	two  map[int]func(a, b api.Formula) api.Formula
}

func rules() table { return table{none: leaves(), one: unary(), two: binary()} }

// has reports whether a kind exists and has so many subformulas.
func (t table) has(kind, kids int) bool {
	switch kids {
	case 0:
		return t.none[kind] != nil
	case 1:
		return t.one[kind] != nil
	case 2:
		return t.two[kind] != nil
	}
	return false
}

func leaves() map[int]func(lit int) api.Formula {
	return map[int]func(lit int) api.Formula{
		api.False: func(int) api.Formula { return not(of(api.True)) },
		api.True:  func(int) api.Formula { return of(api.True) },
		api.Atom:  func(lit int) api.Formula { return api.Formula{Kind: api.Atom, Lit: lit} },
	}
}

func unary() map[int]func(a api.Formula) api.Formula {
	keep := func(kind int) func(a api.Formula) api.Formula {
		return func(a api.Formula) api.Formula { return of(kind, a) }
	}
	return map[int]func(a api.Formula) api.Formula{
		api.Not: keep(api.Not),
		api.EX:  keep(api.EX),
		api.EG:  keep(api.EG),
		api.AX:  func(a api.Formula) api.Formula { return not(of(api.EX, not(a))) },
		api.EF:  func(a api.Formula) api.Formula { return of(api.EU, of(api.True), a) },
		api.AF:  func(a api.Formula) api.Formula { return not(of(api.EG, not(a))) },
		api.AG:  func(a api.Formula) api.Formula { return not(of(api.EU, of(api.True), not(a))) },
	}
}

func binary() map[int]func(a, b api.Formula) api.Formula {
	keep := func(kind int) func(a, b api.Formula) api.Formula {
		return func(a, b api.Formula) api.Formula { return of(kind, a, b) }
	}
	imply := func(a, b api.Formula) api.Formula { return not(of(api.And, a, not(b))) }
	return map[int]func(a, b api.Formula) api.Formula{
		api.And:   keep(api.And),
		api.EU:    keep(api.EU),
		api.Or:    func(a, b api.Formula) api.Formula { return not(neither(a, b)) },
		api.Imply: imply,
		api.Same:  func(a, b api.Formula) api.Formula { return of(api.And, imply(a, b), imply(b, a)) },
		api.AU: func(a, b api.Formula) api.Formula {
			return neither(of(api.EU, not(b), neither(a, b)), of(api.EG, not(b)))
		},
		api.ER: func(a, b api.Formula) api.Formula {
			return not(neither(of(api.EG, b), of(api.EU, b, of(api.And, a, b))))
		},
		api.AR: func(a, b api.Formula) api.Formula { return not(of(api.EU, not(a), not(b))) },
	}
}

// of returns the formula of a kind that has these subformulas.
func of(kind int, kids ...api.Formula) api.Formula {
	return api.Formula{Kind: kind, Kids: kids}
}

func not(f api.Formula) api.Formula { return of(api.Not, f) }

// neither returns the And of the negations of two formulas.
func neither(a, b api.Formula) api.Formula { return of(api.And, not(a), not(b)) }
