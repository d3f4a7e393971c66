package chars_test

import (
	"strings"
	"testing"

	"jobshell/api"
	"jobshell/chars"
	"jobshell/small"
)

func TestQuote(t *testing.T) {
	for s, want := range map[string]string{
		"a/b": "a/b", "-x^@%+:,._": "-x^@%+:,._", "0": "0",
		"": "''", "a b": "'a b'", "$": "'$'", "~": "'~'", "\\": "'\\'", "\"": "'\"'", "\n": "'\n'", "\x00": "'\x00'", "a=b": "'a=b'", "é": "'é'", "\xff": "'\xff'",
		"it's": `'it'\''s'`, "'": `''\'''`, "''": `''\'''\'''`, "'a": `''\''a'`, "a'": `'a'\'''`,
	} {
		if q := chars.Quote(s); q != want {
			t.Errorf("Quote(%q) is %q, want %q", s, q, want)
		}
	}
}

func TestUnquote(t *testing.T) {
	for s, want := range map[string]string{
		"": "", "a": "a", "#~{}*?[]!=": "#~{}*?[]!=", "\r\v\f\x00\x7f": "\r\v\f\x00\x7f", "é\xff\ufffd": "é\xff\ufffd",
		"''": "", `""`: "", "'a b'": "a b", `'$a"\` + "`\n'": `$a"\` + "`\n", "'a'b'c'": "abc", "'é\xff'": "é\xff",
		`"a b"`: "a b", `"'"`: "'", `"\$\` + "`" + `\"\\"`: "$`\"\\", `"\a\'\ "`: `\a\'\ `, "\"a\\\nb\"": "ab", "\"a\nb\"": "a\nb", "\"\\\xff\\é\"": "\\\xff\\é", "\"|&;<>()\"": "|&;<>()",
		`a"b\$c"'d'`: "ab$cd", `\a\ \$\'\"\\`: `a $'"\`, "a\\\nb": "ab", "\\\n": "", "\\\xff\\é\\\x00": "\xffé\x00", `\;\|`: ";|",
		"'a'\\\n\"b\"": "ab", `''""''`: "",
	} {
		if u, e := chars.Unquote(s); u != want || e != api.OK {
			t.Errorf("Unquote(%q) is %q, %d, want %q", s, u, e, want)
		}
	}
}

func TestUnquoteErrors(t *testing.T) {
	for s, want := range map[string]api.Errno{
		"a b": api.ErrSyntax, "a ": api.ErrSyntax, " ": api.ErrSyntax, "\t": api.ErrSyntax, "\n": api.ErrSyntax, "a;": api.ErrSyntax, "$a": api.ErrSyntax, "`": api.ErrSyntax,
		`"$"`: api.ErrSyntax, "\"`\"": api.ErrSyntax, `"a$`: api.ErrSyntax, `"\\$"`: api.ErrSyntax, `"\a$"`: api.ErrSyntax, `\\$`: api.ErrSyntax,
		"'a' b": api.ErrSyntax, `'a' '`: api.ErrSyntax, `$'`: api.ErrSyntax, `;\`: api.ErrSyntax, "'a'\n": api.ErrSyntax, `"a"&"`: api.ErrSyntax,
		"'": api.ErrIncomplete, "'a": api.ErrIncomplete, `'a\'b'`: api.ErrIncomplete, `"`: api.ErrIncomplete, `"a`: api.ErrIncomplete, `"a\"`: api.ErrIncomplete, `'a "$;`: api.ErrIncomplete, `"'`: api.ErrIncomplete,
		`\`: api.ErrIncomplete, `a\`: api.ErrIncomplete, `"a\`: api.ErrIncomplete, `\\\`: api.ErrIncomplete, "a\xff'": api.ErrIncomplete,
	} {
		if u, e := chars.Unquote(s); u != "" || e != want {
			t.Errorf("Unquote(%q) is %q, %d, want %d", s, u, e, want)
		}
	}
}

func TestUnquoteBytes(t *testing.T) {
	check := func(s, text string, errno api.Errno) {
		if u, e := chars.Unquote(s); u != text || e != errno {
			t.Errorf("Unquote(%q) is %q, %d, want %q, %d", s, u, e, text, errno)
		}
	}
	eachByte(func(s string) {
		switch {
		case strings.Contains(" \t\n&|;()<>$`", s):
			check("a"+s, "", api.ErrSyntax)
		case strings.Contains(`'"\`, s):
			check("a"+s, "", api.ErrIncomplete)
		default:
			check("a"+s, "a"+s, api.OK)
		}
		if s != "'" {
			check("'"+s+"'", s, api.OK)
		}
		switch {
		case strings.Contains("$`", s):
			check(`"`+s+`"`, "", api.ErrSyntax)
			check(`"\`+s+`"`, s, api.OK)
		case strings.Contains(`"\`, s):
			check(`"`+s+`"`, "", api.ErrIncomplete)
			check(`"\`+s+`"`, s, api.OK)
		case s == "\n":
			check(`"`+s+`"`, s, api.OK)
			check(`"\`+s+`"`, "", api.OK)
		default:
			check(`"`+s+`"`, s, api.OK)
			check(`"\`+s+`"`, `\`+s, api.OK)
		}
		check(`\`+s, strings.Trim(s, "\n"), api.OK)
	})
}

// meaning is the definition of quoted forms, element by element.
func meaning(s string) (string, api.Errno) {
	text := ""
	for s != "" {
		first := s[:1]
		s = s[1:]
		switch {
		case first == "'":
			inner, rest, found := strings.Cut(s, "'")
			if !found {
				return "", api.ErrIncomplete
			}
			text, s = text+inner, rest
		case first == `"`:
			inner, rest, errno := doubleQuoted(s)
			if errno != api.OK {
				return "", errno
			}
			text, s = text+inner, rest
		case first == `\`:
			if s == "" {
				return "", api.ErrIncomplete
			}
			text, s = text+strings.Trim(s[:1], "\n"), s[1:]
		case strings.Contains(" \t\n&|;()<>$`", first):
			return "", api.ErrSyntax
		default:
			text += first
		}
	}
	return text, api.OK
}

// doubleQuoted returns what is represented up to the closing quote, and the rest.
func doubleQuoted(s string) (string, string, api.Errno) {
	text := ""
	for s != "" {
		switch {
		case s[0] == '"':
			return text, s[1:], api.OK
		case s[0] == '$' || s[0] == '`':
			return "", "", api.ErrSyntax
		case s[0] == '\\' && len(s) > 1 && strings.Contains("$`\"\\", s[1:2]):
			text, s = text+s[1:2], s[2:]
		case s[0] == '\\' && len(s) > 1 && s[1] == '\n':
			s = s[2:]
		case s[0] == '\\' && len(s) > 1:
			text, s = text+s[:2], s[2:]
		default:
			text, s = text+s[:1], s[1:]
		}
	}
	return "", "", api.ErrIncomplete
}

func TestUnquoteDefinition(t *testing.T) {
	small.Each([]string{"a", "'", `"`, `\`, "\n", "$", " ", "\xc3"}, 6, func(s string) {
		text, errno := meaning(s)
		if u, e := chars.Unquote(s); u != text || e != errno {
			t.Errorf("Unquote(%q) is %q, %d, want %q, %d", s, u, e, text, errno)
		}
	})
}

func TestQuoteInverse(t *testing.T) {
	check := func(s string) {
		if u, e := chars.Unquote(chars.Quote(s)); u != s || e != api.OK {
			t.Errorf("Unquote of Quote(%q) is %q, %d", s, u, e)
		}
		if same := chars.Quote(s) == s; same != chars.Plain(s) {
			t.Errorf("Quote(%q) is the argument: %v", s, same)
		}
	}
	eachByte(check)
	var all []string
	small.Each([]string{"a", "-", "'", `"`, `\`, "\n", "$", "é", "\xff"}, 3, func(s string) {
		check(s)
		all = append(all, s)
	})
	for _, s := range all {
		for _, u := range all {
			if both, e := chars.Unquote(chars.Quote(s) + chars.Quote(u)); both != s+u || e != api.OK {
				t.Errorf("Unquote of Quote(%q) and Quote(%q) is %q, %d", s, u, both, e)
			}
		}
	}
}
