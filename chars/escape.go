package chars

import (
	"strings"
	"unicode/utf8"

	"jobshell/api"
)

const hexDigits = "0123456789abcdef"

// Escape returns s with control bytes as escapes.
func Escape(s string) string {
	var text strings.Builder
	for i, r := range s {
		switch {
		case r == '\n':
			text.WriteString(`\n`)
		case r == '\t':
			text.WriteString(`\t`)
		case r == '\\':
			text.WriteString(`\\`)
		case isPrintable(r):
			text.WriteByte(s[i])
		default:
			_, size := utf8.DecodeRuneInString(s[i:])
			for _, b := range []byte(s[i : i+size]) {
				text.WriteString(hexEscape(b))
			}
		}
	}
	return text.String()
}

// hexEscape returns a byte as two hexadecimal digits.
func hexEscape(b byte) string {
	return string([]byte{'\\', 'x', hexDigits[b>>4], hexDigits[b&15]})
}

// Unescape returns the inverse of Escape.
func Unescape(s string) (string, api.Errno) {
	var text strings.Builder
	start, high := -1, 0 // where the unfinished escape sequence begins, and its first digit
	take := func(b byte) {
		text.WriteByte(b)
		start = -1
	}
	for i, r := range s {
		switch {
		case start < 0 && r == '\\':
			start = i
		case start < 0:
			if !isPrintable(r) {
				return "", api.ErrSyntax
			}
			take(s[i])
		case i == start+1:
			if r == 'x' {
				continue
			}
			b, ok := shortEscape(r)
			if !ok {
				return "", api.ErrSyntax
			}
			take(b)
		case i == start+2:
			high = strings.IndexRune(hexDigits, r)
			if !isHigh(high) {
				return "", api.ErrSyntax
			}
		default:
			low := strings.IndexRune(hexDigits, r)
			if low < 0 || !needsHex(16*high+low) {
				return "", api.ErrSyntax
			}
			take(byte(16*high + low))
		}
	}
	if start >= 0 {
		return "", api.ErrTruncated
	}
	return text.String(), api.OK
}

// shortEscape returns the byte that a backslash and r represent.
func shortEscape(r rune) (byte, bool) {
	switch r {
	case 'n':
		return '\n', true
	case 't':
		return '\t', true
	case '\\':
		return '\\', true
	default:
		return 0, false
	}
}

// isHigh reports whether n is the first digit of some byte that needs two digits: those from 0x20 to 0x6f are printable.
func isHigh(n int) bool { return n == 0 || n == 1 || n >= 7 }

// needsHex reports whether Escape writes the byte n as two hexadecimal digits.
func needsHex(n int) bool { return !isPrintable(rune(n)) && n != '\n' && n != '\t' }

func isPrintable(r rune) bool { return ' ' <= r && r <= '~' }
