package arith

import (
	"strings"

	"jobshell/chars"
)

// The kinds of tokens.
const (
	tokenEnd = iota
	tokenConstant
	tokenName
	tokenSymbol // an operator, a parenthesis, or a byte that occurs in no expression
)

// token is a token at an offset.
type token struct {
	kind, at int
	text     string
}

// scan returns the tokens of s, the last of which is its end.
func scan(s string) []token {
	var tokens []token
	for at := skipSpace(s, 0); at < len(s); {
		t := firstToken(s[at:])
		t.at = at
		tokens = append(tokens, t)
		at = skipSpace(s, at+len(t.text))
	}
	return append(tokens, token{kind: tokenEnd, at: len(s)})
}

// skipSpace returns the offset of the first byte from an offset on that is not white space.
func skipSpace(s string, at int) int {
	for at < len(s) && (s[at] == '\t' || s[at] == '\n' || s[at] == ' ') {
		at++
	}
	return at
}

// firstToken returns the token at the beginning of s.
func firstToken(s string) token {
	size := wordSize(s)
	switch {
	case size == 0:
		return token{kind: tokenSymbol, text: s[:symbolSize(s)]}
	case '0' <= s[0] && s[0] <= '9':
		return token{kind: tokenConstant, text: s[:size]}
	}
	return token{kind: tokenName, text: s[:size]}
}

// wordSize returns how many letters, digits and underscores are at the beginning of s.
func wordSize(s string) int {
	size := 0
	for size < len(s) && chars.Name("_"+s[size:size+1]) {
		size++
	}
	return size
}

// symbolSize returns the size of the longest operator at the beginning of s, and 1 if there is only another byte.
func symbolSize(s string) int {
	longest := 1
	for _, b := range binaries {
		rest, ok := strings.CutPrefix(s, b.text)
		if !ok {
			continue
		}
		size := len(b.text)
		if b.assigning && strings.HasPrefix(rest, "=") {
			size++
		}
		longest = max(longest, size)
	}
	return longest
}
