package lines_test

import (
	"slices"
	"strings"
	"testing"

	"jobshell/api"
	"jobshell/lines"
	"jobshell/small"
)

func TestFrom(t *testing.T) {
	small.Each(strings.Split("a\n\t", ""), 5, func(s string) {
		for at := range len(s) + 1 {
			want := strings.SplitAfter(s[at:], "\n")
			if want[len(want)-1] == "" {
				want = want[:len(want)-1]
			}
			var got []string
			next := at
			for from, line := range lines.From(s, at) {
				if from != next {
					t.Fatalf("a line of %q from %d on is at %d, want %d", s, at, from, next)
				}
				got = append(got, line)
				next += len(line)
			}
			if !slices.Equal(got, want) {
				t.Fatalf("the lines of %q from %d on are %q, want %q", s, at, got, want)
			}
		}
	})
}

func TestFromStops(t *testing.T) {
	for from, line := range lines.From("a\nb\nc", 0) {
		if from > 2 {
			t.Fatalf("the line %q comes after the loop was left", line)
		}
		if line == "b\n" {
			break
		}
	}
}

func TestTerminator(t *testing.T) {
	for _, c := range []struct {
		s        string
		at       int
		d        api.Delim
		from, to int
		ok       bool
	}{
		{"a\nE\nb", 0, api.Delim{Text: "E"}, 2, 4, true},
		{"a\nE\nE", 4, api.Delim{Text: "E"}, 4, 5, true},
		{"aE\nEa\nE \n\tE\nE\n", 0, api.Delim{Text: "E"}, 12, 14, true},
		{"aE\n\tEa\n\t\tE\nE\n", 0, api.Delim{Text: "E", Strip: true}, 7, 11, true},
		{"aE\n", 1, api.Delim{Text: "E"}, 1, 3, true},
		{"\t\n", 0, api.Delim{Strip: true}, 0, 2, true},
		{"\t\n\n", 0, api.Delim{}, 2, 3, true},
		{"a\n", 0, api.Delim{}, 0, 0, false},
		{"", 0, api.Delim{}, 0, 0, false},
		{"a\nb\n", 0, api.Delim{Text: "a\nb"}, 0, 0, false},
		{"\tE\n", 0, api.Delim{Text: "\tE", Strip: true}, 0, 0, false},
		{"\tE\n", 0, api.Delim{Text: "\tE"}, 0, 3, true},
		{"E\n", 1, api.Delim{Text: "E", Quoted: true}, 0, 0, false},
	} {
		if from, to, ok := lines.Terminator(c.s, c.at, c.d); from != c.from || to != c.to || ok != c.ok {
			t.Errorf("Terminator(%q, %d, %v) is %d, %d, %v, want %d, %d, %v", c.s, c.at, c.d, from, to, ok, c.from, c.to, c.ok)
		}
	}
}

func TestStripTabs(t *testing.T) {
	for s, want := range map[string]string{"": "", "\t": "", "\t\ta\t\n": "a\t\n", " \ta": " \ta", "a": "a", "\t\n": "\n"} {
		if got := lines.StripTabs(s); got != want {
			t.Errorf("StripTabs(%q) is %q, want %q", s, got, want)
		}
	}
}
