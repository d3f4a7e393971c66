package edits_test

import (
	"math"
	"slices"
	"strings"
	"testing"

	"jobshell/api"
	"jobshell/edits"
	"jobshell/small"
)

func TestPlace(t *testing.T) {
	for _, c := range []struct {
		s             string
		at, line, col int
	}{
		{"", 0, 1, 1}, {"", 1, 1, 1}, {"", -1, 1, 1}, {"abc", 0, 1, 1}, {"abc", 2, 1, 3}, {"abc", 3, 1, 4}, {"abc", 4, 1, 4},
		{"a\nbc", 0, 1, 1}, {"a\nbc", 1, 1, 2}, {"a\nbc", 2, 2, 1}, {"a\nbc", 3, 2, 2}, {"a\nbc", 4, 2, 3}, {"a\nbc", 5, 2, 3}, {"a\nbc", -1, 1, 1},
		{"\n", 0, 1, 1}, {"\n", 1, 2, 1}, {"\n\n", 1, 2, 1}, {"\n\n", 2, 3, 1}, {"a\n", 2, 2, 1}, {"a\r\nb", 2, 1, 3}, {"é\nb", 2, 1, 3}, {"\xff\xff", 2, 1, 3},
		{"a\nbc", math.MaxInt, 2, 3}, {"a\nbc", math.MinInt, 1, 1},
	} {
		if line, col := edits.Place(c.s, c.at); line != c.line || col != c.col {
			t.Errorf("Place(%q, %d) is %d, %d, want %d, %d", c.s, c.at, line, col, c.line, c.col)
		}
	}
}

func TestOffset(t *testing.T) {
	for _, c := range []struct {
		s             string
		line, col, at int
	}{
		{"", 1, 1, 0}, {"abc", 1, 1, 0}, {"abc", 1, 4, 3}, {"a\nbc", 1, 1, 0}, {"a\nbc", 1, 2, 1}, {"a\nbc", 2, 1, 2}, {"a\nbc", 2, 3, 4}, {"a\n", 2, 1, 2}, {"\n\nx", 2, 1, 1}, {"\n\nx", 3, 2, 3}, {"é\n", 1, 3, 2},
	} {
		if at, e := edits.Offset(c.s, c.line, c.col); at != c.at || e != api.OK {
			t.Errorf("Offset(%q, %d, %d) is %d, %d, want %d", c.s, c.line, c.col, at, e, c.at)
		}
	}
	for _, c := range []struct {
		s         string
		line, col int
	}{
		{"", 0, 1}, {"", 1, 0}, {"", 1, 2}, {"", 2, 1}, {"", -1, 1}, {"", 1, -1}, {"a\nbc", 1, 3}, {"a\nbc", 2, 4}, {"a\nbc", 3, 1}, {"a\nbc", 0, 1}, {"a\nbc", -1, 1}, {"a\nbc", 2, 0}, {"a\n", 2, 2}, {"a\n", 3, 1},
		{"a\nbc", math.MaxInt, 1}, {"a\nbc", math.MinInt, 1}, {"a\nbc", 2, math.MaxInt}, {"a\nbc", 2, math.MinInt}, {"a\nbc", math.MaxInt, math.MaxInt}, {"a\nbc", math.MinInt, math.MinInt},
	} {
		if at, e := edits.Offset(c.s, c.line, c.col); at != 0 || e != api.ErrRange {
			t.Errorf("Offset(%q, %d, %d) is %d, %d, want ErrRange", c.s, c.line, c.col, at, e)
		}
	}
}

func TestLines(t *testing.T) {
	for _, want := range [][]string{
		{""}, {"a"}, {"a", "bc"}, {"a", ""}, {"", ""}, {"", "", ""}, {"", "a"}, {"a", "", "b"}, {"a\r", "b\x00"}, {"é", "\xff"}, {" a ", "\t"},
	} {
		if l := edits.Lines(strings.Join(want, "\n")); !slices.Equal(l, want) {
			t.Errorf("Lines are %q, want %q", l, want)
		}
	}
	if l := edits.Lines(strings.Repeat("\n", 1000)); len(l) != 1001 {
		t.Errorf("1000 newlines have %d lines", len(l))
	}
}

func TestPositions(t *testing.T) {
	small.Each([]string{"a", "\n", "é"}, 6, func(s string) {
		lines := edits.Lines(s)
		if joined := strings.Join(lines, "\n"); joined != s || len(lines) != strings.Count(s, "\n")+1 {
			t.Errorf("Lines(%q) are %q", s, lines)
		}
		for at := range len(s) + 1 {
			before := s[:at]
			wantLine, wantCol := strings.Count(before, "\n")+1, at-strings.LastIndex(before, "\n")
			line, col := edits.Place(s, at)
			if line != wantLine || col != wantCol {
				t.Errorf("Place(%q, %d) is %d, %d, want %d, %d", s, at, line, col, wantLine, wantCol)
			}
			if back, e := edits.Offset(s, line, col); back != at || e != api.OK {
				t.Errorf("Offset(%q, %d, %d) is %d, %d, want %d", s, line, col, back, e, at)
			}
		}
		for line := range len(lines) + 2 {
			for col := range len(s) + 3 {
				is := line >= 1 && line <= len(lines) && col >= 1 && col <= len(lines[line-1])+1
				at, e := edits.Offset(s, line, col)
				if is != (e == api.OK) || !is && (at != 0 || e != api.ErrRange) {
					t.Errorf("Offset(%q, %d, %d) is %d, %d", s, line, col, at, e)
				}
			}
		}
	})
}
