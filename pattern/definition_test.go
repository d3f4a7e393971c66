package pattern_test

import (
	"regexp"
	"slices"
	"strings"
	"testing"

	"jobshell/api"
	"jobshell/pattern"
	"jobshell/small"
)

// In the tests of this file, characters are written as runes: an active character is itself, a quoted one is greater by quoted.
const quoted = 0x1000

const classNames = `\[:(?:alpha|digit|alnum|upper|lower|space|blank|punct):\]`

// The members of bracket expressions, by definition.
var (
	firstMember = regexp.MustCompile(`^(?s:` + classNames + `|.-[^\]]|.)`)
	otherMember = regexp.MustCompile(`^(?s:` + classNames + `|[^\]]-[^\]]|[^\]])`)
)

// denoted returns by definition whether a member denotes a byte.
func denoted(member string) func(b byte) bool {
	chars := []rune(member)
	if len(chars) > 3 {
		class := regexp.MustCompile(`^[` + member + `]$`)
		return func(b byte) bool { return class.MatchString(string(rune(b))) }
	}
	low, high := byte(chars[0]), byte(chars[len(chars)-1])
	return func(b byte) bool { return low <= b && b <= high }
}

// bracketItem returns by definition the item of the bracket expression at the beginning of s, and what follows it.
func bracketItem(s string) (api.PatItem, string, bool) {
	rest, negated := s[1:], false
	if strings.HasPrefix(rest, "!") || strings.HasPrefix(rest, "^") {
		rest, negated = rest[1:], true
	}
	var members []func(b byte) bool
	for kind := firstMember; ; kind = otherMember {
		member := kind.FindString(rest)
		if member == "" {
			break
		}
		members = append(members, denoted(member))
		rest = rest[len(member):]
	}
	if len(members) == 0 || !strings.HasPrefix(rest, "]") {
		return api.PatItem{}, "", false
	}
	is := func(b int) bool {
		return 0 <= b && b < 256 && slices.ContainsFunc(members, func(denotes func(b byte) bool) bool { return denotes(byte(b)) })
	}
	pairs := ""
	for low := range 256 {
		if is(low) && !is(low-1) {
			high := low
			for is(high + 1) {
				high++
			}
			pairs += string([]byte{byte(low), byte(high)})
		}
	}
	return set(negated, pairs), rest[1:], true
}

// compiled is the compiled pattern by definition.
func compiled(s string) []api.PatItem {
	var p []api.PatItem
	for s != "" {
		c := []rune(s)[0]
		if c == '[' {
			if item, rest, ok := bracketItem(s); ok {
				p, s = append(p, item), rest
				continue
			}
		}
		switch c {
		case '*':
			p = append(p, star)
		case '?':
			p = append(p, anyByte)
		default:
			p = append(p, bytesOf(string([]byte{byte(c)}))...)
		}
		s = strings.TrimPrefix(s, string(c))
	}
	return p
}

// runsOf returns runs of the characters, a run for each one.
func runsOf(s string) []api.Run {
	var l []api.Run
	for _, c := range s {
		run := api.Run{Text: string([]byte{byte(c)}), Class: api.CLit}
		if c >= quoted {
			run.Class = api.CQuoted
		}
		l = append(l, run)
	}
	return l
}

func TestCompileDefinition(t *testing.T) {
	q := func(c rune) string { return string(c + quoted) }
	pieces := []string{"[", "]", "!", "^", "-", "a", "c", "*", "[:digit:]", "[:x:]", q('['), q(']'), q('!'), q('-'), q('b')}
	check := func(s string) {
		if p, want := pattern.Compile(runsOf(s)), compiled(s); !samePattern(p, want) {
			t.Errorf("Compile(%v) is %v, want %v", runsOf(s), p, want)
		}
	}
	small.Each(pieces, 3, check)
	small.Each(pieces, 4, func(s string) {
		// Sets of many members take the definition long: it suffices that they end.
		if strings.HasSuffix(s, "]") {
			check("[" + s)
		}
	})
	small.Each(pieces, 2, func(s string) {
		for _, begin := range []string{"[!", "[^]", "[]-", "[a[:space:]", "[[:punct:]-"} {
			check(begin + s + "]")
			check(begin + s + "]" + s)
		}
	})
}

// TestQuotedText checks that quoted text matches itself only, also before other characters.
func TestQuotedText(t *testing.T) {
	small.Each([]string{"[", "]", "*", "?", "a", "!", "-"}, 3, func(text string) {
		before := []api.Run{{Text: text, Class: api.CQuoted}}
		p := pattern.Compile(before)
		if s, ok := pattern.Literal(p); s != text || !ok || !pattern.Match(p, text) || pattern.Match(p, text+"a") || pattern.Match(p, "a"+text) {
			t.Errorf("the pattern of the quoted %q is %v", text, p)
		}
		for _, other := range []string{"", "*", "a]", "-]", "[a]", "!a]", "?b", ":alpha:]"} {
			rest := pattern.Compile(literal(other))
			if p := pattern.Compile(append(before, literal(other)...)); !samePattern(p, items(bytesOf(text), rest)) {
				t.Errorf("the pattern of the quoted %q and of %q is %v", text, other, p)
			}
		}
	})
}
