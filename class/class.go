// Package class distinguishes the bytes of shell programs, for the layers that read their source.
package class

import "strings"

// Blank reports whether b is a blank.
func Blank(b byte) bool { return b == ' ' || b == '\t' }

// Operator reports whether b is one of the operator bytes.
func Operator(b byte) bool { return strings.IndexByte("&|;()<>", b) >= 0 }

// Border reports whether b ends a word unless it is quoted: a blank, a newline, or an operator byte.
func Border(b byte) bool { return Blank(b) || b == '\n' || Operator(b) }

// Digit reports whether b is a digit.
func Digit(b byte) bool { return '0' <= b && b <= '9' }

// Named reports whether b can occur in a name: a letter, a digit, or an underscore.
func Named(b byte) bool {
	return 'A' <= b && b <= 'Z' || 'a' <= b && b <= 'z' || b == '_' || Digit(b)
}

// Parameter returns the size of the parameter that s begins with after a $: a name of any size, a digit, or a special parameter. It is 0 if there is none.
func Parameter(s string) int {
	switch {
	case s == "":
		return 0
	case Digit(s[0]) || strings.IndexByte("@*#?-$!", s[0]) >= 0:
		return 1
	}
	size := 0
	for size < len(s) && Named(s[size]) {
		size++
	}
	return size
}
