package chars

import (
	"strings"

	"jobshell/api"
)

// unquoted is the quote of a byte outside of quotes: no rune of a string is negative.
const unquoted rune = -1

// Quote returns a quoted form of s.
func Quote(s string) string {
	if Plain(s) {
		return s
	}
	return "'" + strings.ReplaceAll(s, "'", `'\''`) + "'"
}

// Unquote returns the string denoted by a quoted form without expansions.
func Unquote(s string) (string, api.Errno) {
	var text strings.Builder
	quote, escaped := unquoted, false
	// Whole stretches of s are copied, because a rune may be a byte that is not UTF-8.
	from := 0
	drop := func(start, end int) {
		text.WriteString(s[from:start])
		from = end
	}
	for i, r := range s {
		switch {
		case escaped:
			escaped = false
			if r == '\n' {
				drop(i-1, i+1)
			} else if quote == unquoted || strings.ContainsRune("$`\"\\", r) {
				drop(i-1, i)
			}
		case r == '\\' && quote != '\'':
			escaped = true
		case r == quote:
			quote = unquoted
			drop(i, i+1)
		case quote == unquoted && (r == '\'' || r == '"'):
			quote = r
			drop(i, i+1)
		case !permitted(r, quote):
			return "", api.ErrSyntax
		}
	}
	if escaped || quote != unquoted {
		return "", api.ErrIncomplete
	}
	drop(len(s), len(s))
	return text.String(), api.OK
}

// permitted reports whether r represents itself within the quote.
func permitted(r, quote rune) bool {
	switch quote {
	case '\'':
		return true
	case '"':
		return r != '$' && r != '`'
	default:
		return !strings.ContainsRune(" \t\n&|;()<>$`", r)
	}
}
