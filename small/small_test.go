package small_test

import (
	"slices"
	"testing"

	"jobshell/small"
)

func TestEach(t *testing.T) {
	for _, c := range []struct {
		pieces []string
		n      int
		want   []string
	}{
		{nil, 0, []string{""}},
		{nil, 2, []string{""}},
		{[]string{"a"}, 0, []string{""}},
		{[]string{"a", "bc"}, 1, []string{"", "a", "bc"}},
		{[]string{"a", "bc"}, 2, []string{"", "a", "aa", "abc", "bc", "bca", "bcbc"}},
	} {
		var l []string
		small.Each(c.pieces, c.n, func(s string) { l = append(l, s) })
		slices.Sort(l)
		if !slices.Equal(l, c.want) {
			t.Errorf("Each(%q, %d) calls with %q", c.pieces, c.n, l)
		}
	}
}
