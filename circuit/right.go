package circuit

import (
	"slices"

	"parterre/api"
	"parterre/graph"
)

// maxReset is the greatest Reset, which stands for either value.
const maxReset = 2

// The bytes of a name's text.
const (
	firstByte = 33
	lastByte  = 126
)

// Right reports whether c is valid.
func Right(c api.Circuit) bool {
	return fits(c) && graph.Right(inner(c)) && driven(c) && named(c)
}

// fits looks at the numbers ahead of all else: with a huge one the number of the graph's inputs would wrap round.
func fits(c api.Circuit) bool {
	numbers := counts(c)
	for _, kind := range kinds {
		if numbers[kind] < 0 || numbers[kind] > api.MaxVars {
			return false
		}
	}
	return true
}

// driven reports whether all signals that have a literal from outside have one of the graph, and the latches a Reset that exists.
func driven(c api.Circuit) bool {
	g := inner(c)
	for _, latch := range c.Latches {
		if !graph.Lit(g, latch.Next) || latch.Reset < 0 || latch.Reset > maxReset {
			return false
		}
	}
	stray := func(l int) bool { return !graph.Lit(g, l) }
	for _, kind := range kinds {
		if slices.ContainsFunc(listed(c, kind), stray) {
			return false
		}
	}
	return true
}

// named asks for the order first: names in order are no more than there are signals, so the rest is soon done.
func named(c api.Circuit) bool {
	return ordered(c) && !slices.ContainsFunc(c.Names, wrong) && distinct(c.Names)
}

// ordered reports whether all names have signals, in strictly ascending order. What is left when all kinds have been gone through has no kind, or one that had its turn.
func ordered(c api.Circuit) bool {
	numbers := counts(c)
	left := c.Names
	for _, kind := range kinds {
		least := 0
		for len(left) > 0 && rune(left[0].Kind) == kind {
			at := left[0].At
			if at < least || at >= numbers[kind] {
				return false
			}
			least = at + 1
			left = left[1:]
		}
	}
	return len(left) == 0
}

// wrong reports whether a name has a text that is not valid. No rune that takes more than one byte, and none in place of a broken one, is in the range of the bytes.
func wrong(name api.Name) bool {
	if len(name.Text) == 0 || len(name.Text) > api.MaxName {
		return true
	}
	for _, r := range name.Text {
		if r < firstByte || r > lastByte {
			return true
		}
	}
	return false
}

// distinct reports whether no two names have the same text.
func distinct(names []api.Name) bool {
	texts := make(map[string]struct{}, len(names))
	for _, name := range names {
		texts[name.Text] = struct{}{}
	}
	return len(texts) == len(names)
}
