package token

import (
	"slices"
	"testing"

	"parterre/api"
)

// TestTokensOneByOne: whoever leaves the iterator early gets nothing more, and never comes to the error behind.
func TestTokensOneByOne(t *testing.T) {
	for stop := 1; stop <= 3; stop++ {
		var got []string
		for x, err := range tokens("a -> b ?") {
			if err != api.OK {
				t.Errorf("the error %d came at %d", err, x.At)
			}
			if got = append(got, x.Text); len(got) == stop {
				break
			}
		}
		if want := []string{"a", "->", "b"}[:stop]; !slices.Equal(got, want) {
			t.Errorf("%q, not %q", got, want)
		}
	}
}

// TestTokensEnd: the error or the end comes last, once.
func TestTokensEnd(t *testing.T) {
	for s, want := range map[string][]api.Errno{
		"":        {api.OK},
		"a":       {api.OK, api.OK},
		"?":       {api.ErrToken},
		"a ? b ?": {api.OK, api.ErrToken},
	} {
		var got []api.Errno
		for _, err := range tokens(s) {
			got = append(got, err)
		}
		if !slices.Equal(got, want) {
			t.Errorf("%q: %v, not %v", s, got, want)
		}
	}
}
