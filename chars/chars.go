// Package chars is layer 1: characters, names and quoting. See shared/doc/01-chars.md.
package chars

import (
	"strings"

	"jobshell/api"
)

// Name reports whether s is the name of a variable.
func Name(s string) bool {
	if s == "" || len(s) > api.MaxName {
		return false
	}
	for i, r := range s {
		if !isLetter(r) && r != '_' && (i == 0 || !isDigit(r)) {
			return false
		}
	}
	return true
}

// Digits returns the value of a decimal number.
func Digits(s string) (int, bool) {
	if s == "" || s[0] == '0' && s != "0" {
		return 0, false
	}
	number := 0
	for _, r := range s {
		if !isDigit(r) {
			return 0, false
		}
		digit := int(r - '0')
		// Comparing before multiplying keeps a long string from wrapping around.
		if number > (api.MaxNumber-digit)/10 {
			return 0, false
		}
		number = 10*number + digit
	}
	return number, true
}

// Plain reports whether s needs no quotes.
func Plain(s string) bool {
	for _, r := range s {
		if !isLetter(r) && !isDigit(r) && !strings.ContainsRune("_-./,:+%@^", r) {
			return false
		}
	}
	return s != ""
}

func isLetter(r rune) bool { return 'A' <= r && r <= 'Z' || 'a' <= r && r <= 'z' }

func isDigit(r rune) bool { return '0' <= r && r <= '9' }
