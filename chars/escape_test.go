package chars_test

import (
	"fmt"
	"strings"
	"testing"

	"jobshell/api"
	"jobshell/chars"
	"jobshell/small"
)

// escapeOf is how a byte is escaped by definition.
func escapeOf(b byte) string {
	switch {
	case b == 10:
		return `\n`
	case b == 9:
		return `\t`
	case b == 92:
		return `\\`
	case b < 32 || b > 126:
		return fmt.Sprintf(`\x%02x`, b)
	}
	return string([]byte{b})
}

func TestEscape(t *testing.T) {
	for s, want := range map[string]string{
		"": "", "a b": "a b", " ~": " ~", `'"$`: `'"$`, "a\n\t\\b": `a\n\t\\b`, "\n\x01é": `\n\x01\xc3\xa9`, "\r\x00\x1f\x7f\x80\xff": `\x0d\x00\x1f\x7f\x80\xff`,
		"\ufffd": `\xef\xbf\xbd`, "\xef\xbf": `\xef\xbf`, "\xf0\x9f\x98\x80!": `\xf0\x9f\x98\x80!`, "\xe9a\xe9": `\xe9a\xe9`, `\n`: `\\n`,
	} {
		if e := chars.Escape(s); e != want {
			t.Errorf("Escape(%q) is %q, want %q", s, e, want)
		}
	}
	for b := range 256 {
		s := string([]byte{byte(b)})
		if e := chars.Escape(s); e != escapeOf(byte(b)) {
			t.Errorf("Escape(%q) is %q", s, e)
		}
		for c := range 256 {
			s := string([]byte{byte(b), byte(c)})
			if e := chars.Escape(s); e != escapeOf(byte(b))+escapeOf(byte(c)) {
				t.Errorf("Escape(%q) is %q", s, e)
			}
		}
	}
}

func TestUnescape(t *testing.T) {
	for s, want := range map[string]string{
		"": "", "a b~": "a b~", `\n\t\\`: "\n\t\\", `\\n`: `\n`, `\x01\n`: "\x01\n", `\xc3\xa9`: "é", `\x00\x08\x0b\x1f\x7f\x80\xff`: "\x00\x08\x0b\x1f\x7f\x80\xff", `a\x7fb`: "a\x7fb", `\xff0`: "\xff0",
	} {
		if u, e := chars.Unescape(s); u != want || e != api.OK {
			t.Errorf("Unescape(%q) is %q, %d, want %q", s, u, e, want)
		}
	}
}

func TestUnescapeErrors(t *testing.T) {
	for s, want := range map[string]api.Errno{
		`\`: api.ErrTruncated, `\x`: api.ErrTruncated, `\x0`: api.ErrTruncated, `\x1`: api.ErrTruncated, `\x7`: api.ErrTruncated, `\xf`: api.ErrTruncated, `a\n\`: api.ErrTruncated, `\\\`: api.ErrTruncated,
		"\n": api.ErrSyntax, "\t": api.ErrSyntax, "a\x00": api.ErrSyntax, "\x7f": api.ErrSyntax, "é": api.ErrSyntax, "\xff": api.ErrSyntax, "\ufffd": api.ErrSyntax,
		`\q`: api.ErrSyntax, `\X01`: api.ErrSyntax, `\N`: api.ErrSyntax, `\'`: api.ErrSyntax, `\0`: api.ErrSyntax, "\\\n": api.ErrSyntax, "\\é": api.ErrSyntax, "\\\xff": api.ErrSyntax, "\\\x00": api.ErrSyntax,
		`\x2`: api.ErrSyntax, `\x6`: api.ErrSyntax, `\x41`: api.ErrSyntax, `\x20`: api.ErrSyntax, `\x5c`: api.ErrSyntax, `\x7e`: api.ErrSyntax, `\x70`: api.ErrSyntax, `\x09`: api.ErrSyntax, `\x0a`: api.ErrSyntax,
		`\x0A`: api.ErrSyntax, `\xA0`: api.ErrSyntax, `\xG`: api.ErrSyntax, `\x0g`: api.ErrSyntax, `\x-1`: api.ErrSyntax, "\\x\xff": api.ErrSyntax, "\\x0\xff": api.ErrSyntax, "\\x0é": api.ErrSyntax,
		`\q\`: api.ErrSyntax, "\n\\": api.ErrSyntax, `\x41\x`: api.ErrSyntax,
	} {
		if u, e := chars.Unescape(s); u != "" || e != want {
			t.Errorf("Unescape(%q) is %q, %d, want %d", s, u, e, want)
		}
	}
}

// unescaped is the definition of Unescape by the escapes of single bytes.
func unescaped(s string) (string, api.Errno) {
	var text []byte
next:
	for s != "" {
		errno := api.ErrSyntax
		for b := range 256 {
			escape := escapeOf(byte(b))
			if rest, found := strings.CutPrefix(s, escape); found {
				text, s = append(text, byte(b)), rest
				continue next
			}
			if strings.HasPrefix(escape, s) {
				errno = api.ErrTruncated
			}
		}
		return "", errno
	}
	return string(text), api.OK
}

func TestUnescapeDefinition(t *testing.T) {
	check := func(s string) {
		text, errno := unescaped(s)
		if u, e := chars.Unescape(s); u != text || e != errno {
			t.Errorf("Unescape(%q) is %q, %d, want %q, %d", s, u, e, text, errno)
		}
	}
	for b := range 256 {
		check(string([]byte{byte(b)}))
		check(string([]byte{'\\', byte(b)}))
		check(string([]byte{'\\', 'x', byte(b)}))
		for c := range 256 {
			check(string([]byte{'\\', 'x', byte(b), byte(c)}))
		}
	}
	small.Each([]string{`\`, "x", "n", "t", "0", "6", "7", "a", "f", "\n", "\xc3"}, 4, check)
}

func TestEscapeInverse(t *testing.T) {
	small.Each([]string{"a", "x", "0", `\`, "\n", "\t", "\x00", "\x7f", "é", "\xff"}, 4, func(s string) {
		if u, e := chars.Unescape(chars.Escape(s)); u != s || e != api.OK {
			t.Errorf("Unescape of Escape(%q) is %q, %d", s, u, e)
		}
		if u, e := chars.Unescape(s); e == api.OK && chars.Escape(u) != s {
			t.Errorf("Escape of Unescape(%q) is %q", s, chars.Escape(u))
		}
	})
}
