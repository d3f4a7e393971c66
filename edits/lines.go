package edits

import (
	"strings"

	"jobshell/api"
)

// Place returns the line and the column of an offset.
func Place(s string, at int) (int, int) {
	at = min(max(at, 0), len(s))
	line, start := 0, 0
	count := func(from, to int) bool {
		line++
		start = from
		return true
	}
	eachLine(s[:at], count)
	return line, at - start + 1
}

// Offset returns the offset of a line and a column.
func Offset(s string, line, col int) (int, api.Errno) {
	counted, at, errno := 0, 0, api.ErrRange
	count := func(from, to int) bool {
		counted++
		if counted == line && 1 <= col && col <= to-from+1 {
			at, errno = from+col-1, api.OK
		}
		return counted < line
	}
	eachLine(s, count)
	return at, errno
}

// Lines returns the lines of s.
func Lines(s string) []string {
	var lines []string
	collect := func(from, to int) bool {
		lines = append(lines, s[from:to])
		return true
	}
	eachLine(s, collect)
	return lines
}

// eachLine calls visit with the bounds of each line of s, as long as visit returns true.
func eachLine(s string, visit func(from, to int) bool) {
	from := 0
	for {
		size := strings.IndexByte(s[from:], '\n')
		if size < 0 {
			visit(from, len(s))
			return
		}
		if !visit(from, from+size) {
			return
		}
		from += size + 1
	}
}
