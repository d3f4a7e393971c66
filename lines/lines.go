// Package lines enumerates the lines of strings and finds the ends of here-documents, for the layers that read or skip them.
package lines

import (
	"iter"
	"strings"

	"jobshell/api"
)

// From returns the lines of s from an offset on, with their newlines, and the offsets at which they begin. The first one begins at the offset itself.
func From(s string, at int) iter.Seq2[int, string] {
	return func(yield func(from int, line string) bool) {
		for from := at; from < len(s); {
			to := end(s, from)
			if !yield(from, s[from:to]) {
				return
			}
			from = to
		}
	}
}

// end returns the offset after a line.
func end(s string, from int) int {
	size := strings.IndexByte(s[from:], '\n')
	if size < 0 {
		return len(s)
	}
	return from + size + 1
}

// Terminator returns the bounds of the line that terminates the here-document that begins at an offset.
func Terminator(s string, at int, d api.Delim) (from, to int, ok bool) {
	for begin, line := range From(s, at) {
		if terminates(line, d) {
			return begin, begin + len(line), true
		}
	}
	return 0, 0, false
}

func terminates(line string, d api.Delim) bool {
	if d.Strip {
		line = StripTabs(line)
	}
	return strings.TrimSuffix(line, "\n") == d.Text
}

// StripTabs returns a line without its leading tabs.
func StripTabs(line string) string { return strings.TrimLeft(line, "\t") }
