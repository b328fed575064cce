package formula

import "parterre/api"

// properties is what the formulas of a kind have in common.
type properties struct {
	kids                    int // how many subformulas they have
	before, between, behind string
	loose                   bool // as a subformula, they need parentheses
}

// table holds the kinds that exist, by their numbers.
type table map[int]properties

func kinds() table {
	return map[int]properties{
		api.False: {before: "false"},
		api.True:  {before: "true"},
		api.Atom:  {},
		api.Not:   {kids: 1, before: "!"},
		api.And:   {kids: 2, between: " & ", loose: true},
		api.Or:    {kids: 2, between: " | ", loose: true},
		api.Imply: {kids: 2, between: " -> ", loose: true},
		api.Same:  {kids: 2, between: " <-> ", loose: true},
		api.EX:    {kids: 1, before: "EX "},
		api.AX:    {kids: 1, before: "AX "},
		api.EF:    {kids: 1, before: "EF "},
		api.AF:    {kids: 1, before: "AF "},
		api.EG:    {kids: 1, before: "EG "},
		api.AG:    {kids: 1, before: "AG "},
		api.EU:    {kids: 2, before: "E [", between: " U ", behind: "]"},
		api.AU:    {kids: 2, before: "A [", between: " U ", behind: "]"},
		api.ER:    {kids: 2, before: "E [", between: " R ", behind: "]"},
		api.AR:    {kids: 2, before: "A [", between: " R ", behind: "]"},
	}
}
