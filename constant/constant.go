// Package constant reads the integer constants of arithmetic expressions, which the layers arith and calc share.
package constant

import "jobshell/api"

// Value returns the value of a decimal, octal or hexadecimal constant: ErrSyntax if s is not well-formed, and ErrOverflow if its value is above most.
func Value(s string, most uint64) (uint64, api.Errno) {
	base, digits, ok := split(s)
	if !ok {
		return 0, api.ErrSyntax
	}
	value, fits := uint64(0), true
	for i := range len(digits) {
		digit, ok := digitValue(digits[i])
		if !ok || digit >= base {
			return 0, api.ErrSyntax
		}
		// A digit that is not well-formed may still follow one that makes the value too large.
		fits = fits && digit <= most && value <= (most-digit)/base
		value = base*value + digit
	}
	if !fits {
		return 0, api.ErrOverflow
	}
	return value, api.OK
}

// split returns the base of a constant and its digits. The 0 of an octal constant is one of its digits.
func split(s string) (uint64, string, bool) {
	switch {
	case s == "":
		return 0, "", false
	case s[0] != '0':
		return 10, s, true
	case len(s) > 1 && (s[1] == 'x' || s[1] == 'X'):
		return 16, s[2:], len(s) > 2
	}
	return 8, s, true
}

func digitValue(b byte) (uint64, bool) {
	switch {
	case '0' <= b && b <= '9':
		return uint64(b - '0'), true
	case 'a' <= b && b <= 'f':
		return uint64(b-'a') + 10, true
	case 'A' <= b && b <= 'F':
		return uint64(b-'A') + 10, true
	}
	return 0, false
}
