// Package head examines the words with which simple commands begin, for the layers that read or check them.
package head

import (
	"strings"

	"jobshell/api"
	"jobshell/chars"
	"jobshell/lexer"
)

// Assignment returns the name and the value if s is an assignment.
func Assignment(s string) (name, value string, ok bool) {
	name, value, ok = strings.Cut(s, "=")
	if !ok || !chars.Name(name) {
		return "", "", false
	}
	return name, value, true
}

// Literal returns the literal form of a word, or "" if it has none.
func Literal(l []api.Part) string {
	if len(l) != 1 || l[0].Kind != api.PText {
		return ""
	}
	return l[0].Text
}

// Begins reports whether a word can be the first one of a simple command: it is neither reserved nor an assignment.
func Begins(l []api.Part) bool {
	return !lexer.Reserved(Literal(l)) && !isAssignment(l)
}

func isAssignment(l []api.Part) bool {
	if len(l) == 0 || l[0].Kind != api.PText {
		return false
	}
	_, _, ok := Assignment(l[0].Text)
	return ok
}
