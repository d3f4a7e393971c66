package pattern_test

import (
	"slices"
	"strings"
	"testing"

	"jobshell/api"
	"jobshell/pattern"
	"jobshell/small"
)

var (
	anyByte = api.PatItem{Kind: api.PatAny}
	star    = api.PatItem{Kind: api.PatStar}
)

// bytesOf returns the items of the bytes of s.
func bytesOf(s string) []api.PatItem {
	var p []api.PatItem
	for i := range len(s) {
		p = append(p, api.PatItem{Kind: api.PatByte, Text: s[i : i+1]})
	}
	return p
}

// set returns the item of spans, which are given as pairs of bytes.
func set(neg bool, pairs string) api.PatItem {
	item := api.PatItem{Kind: api.PatSet, Neg: neg}
	for i := 0; i < len(pairs); i += 2 {
		item.Set = append(item.Set, api.Span{Low: pairs[i], High: pairs[i+1]})
	}
	return item
}

// items joins items and lists of items.
func items(parts ...any) []api.PatItem {
	var p []api.PatItem
	for _, part := range parts {
		switch part := part.(type) {
		case api.PatItem:
			p = append(p, part)
		case []api.PatItem:
			p = append(p, part...)
		}
	}
	return p
}

func samePattern(p, q []api.PatItem) bool {
	return slices.EqualFunc(p, q, func(a, b api.PatItem) bool {
		return a.Kind == b.Kind && a.Text == b.Text && a.Neg == b.Neg && slices.Equal(a.Set, b.Set)
	})
}

// literal returns one run of class CLit.
func literal(s string) []api.Run { return []api.Run{{Text: s, Class: api.CLit}} }

// eachPattern calls f with all patterns of at most n of the items.
func eachPattern(choice []api.PatItem, n int, f func(p []api.PatItem)) {
	level := [][]api.PatItem{nil}
	for range n + 1 {
		var next [][]api.PatItem
		for _, p := range level {
			f(p)
			for _, item := range choice {
				next = append(next, items(p, item))
			}
		}
		level = next
	}
}

// someItems are items of every kind, with sets in the forms that differ.
func someItems() []api.PatItem {
	return items(bytesOf("ab"), anyByte, star, set(false, "ab"), set(true, "aa"), set(false, ""))
}

// corresponds is by definition whether an item corresponds to a substring.
func corresponds(item api.PatItem, s string) bool {
	switch item.Kind {
	case api.PatByte:
		return s == item.Text
	case api.PatAny:
		return len(s) == 1
	case api.PatSet:
		return len(s) == 1 && item.Neg != slices.ContainsFunc(item.Set, func(span api.Span) bool { return span.Low <= s[0] && s[0] <= span.High })
	default:
		return true
	}
}

// matches is by definition whether a valid pattern matches s.
func matches(p []api.PatItem, s string) bool {
	if len(p) == 0 {
		return s == ""
	}
	for size := range len(s) + 1 {
		if corresponds(p[0], s[:size]) && matches(p[1:], s[size:]) {
			return true
		}
	}
	return false
}

// extreme returns the least or the greatest of the sizes up to n that are ok.
func extreme(n int, greatest bool, ok func(size int) bool) (int, bool) {
	for i := range n + 1 {
		size := i
		if greatest {
			size = n - i
		}
		if ok(size) {
			return size, true
		}
	}
	return 0, false
}

func checkMatches(t *testing.T, p []api.PatItem, s string) {
	t.Helper()
	if want := matches(p, s); pattern.Match(p, s) != want {
		t.Errorf("Match(%v, %q) is %v", p, s, !want)
	}
	for _, longest := range []bool{false, true} {
		want, is := extreme(len(s), longest, func(size int) bool { return matches(p, s[:size]) })
		if n, ok := pattern.Prefix(p, s, longest); n != want || ok != is {
			t.Errorf("Prefix(%v, %q, %v) is %d, %v, want %d, %v", p, s, longest, n, ok, want, is)
		}
		want, is = extreme(len(s), longest, func(size int) bool { return matches(p, s[len(s)-size:]) })
		if n, ok := pattern.Suffix(p, s, longest); n != want || ok != is {
			t.Errorf("Suffix(%v, %q, %v) is %d, %v, want %d, %v", p, s, longest, n, ok, want, is)
		}
	}
}

func TestMatchDefinition(t *testing.T) {
	eachPattern(someItems(), 3, func(p []api.PatItem) {
		small.Each([]string{"a", "b", "c"}, 4, func(s string) { checkMatches(t, p, s) })
	})
	stars := items(star, bytesOf("ab"))
	eachPattern(stars, 6, func(p []api.PatItem) {
		small.Each([]string{"a", "b"}, 5, func(s string) { checkMatches(t, p, s) })
	})
}

func TestMatch(t *testing.T) {
	for _, c := range []struct {
		text, s string
		want    bool
	}{
		{"a*[!0-9]", "ab", true}, {"a*[!0-9]", "a1b", true}, {"a*[!0-9]", "a1", false}, {"a*[!0-9]", "a", false},
		{"", "", true}, {"", "a", false}, {"*", "", true}, {"*", "a/b\n.\xff\x00", true}, {"?", "/", true}, {"?", ".", true}, {"*", ".a", true}, {"[!a]", "/", true}, {"?", "é", false}, {"??", "é", true}, {"?", "\xff", true}, {"[!a]", "\x00", true},
		{"a*b*c", "aXbXbc", true}, {"a*b*c", "acb", false}, {"*a*a*", "xax", false}, {"*ab", "aab", true}, {"*.tar.*", "a.tar.tar.gz", true}, {"*.tar.?", "a.tar.tar.gz", false},
		{"[b-a]", "", false}, {"[b-a]", "a", false}, {"[b-a]", "[", false}, {"[!b-a]", "x", true}, {"[!b-a]", "", false}, {"[!b-a]", "xy", false}, {"A", "a", false}, {"é", "é", true},
	} {
		if p := pattern.Compile(literal(c.text)); pattern.Match(p, c.s) != c.want {
			t.Errorf("Match of %q and %q is %v", c.text, c.s, !c.want)
		}
	}
}

func TestMatchBytes(t *testing.T) {
	in, out := set(false, "\x00\x00az\xff\xff"), set(true, "\x00\x00az\xff\xff")
	for b := range 256 {
		s := string([]byte{byte(b)})
		want := b == 0 || 'a' <= b && b <= 'z' || b == 255
		if pattern.Match(items(in), s) != want || pattern.Match(items(out), s) == want {
			t.Errorf("the sets match %q: %v", s, !want)
		}
		if !pattern.Match(items(anyByte), s) || !pattern.Match(bytesOf(s), s) || !pattern.Match(items(set(false, "\x00\xff")), s) || pattern.Match(items(set(true, "\x00\xff")), s) {
			t.Errorf("the items of all bytes, and %q", s)
		}
	}
}

func TestPrefixAndSuffix(t *testing.T) {
	for _, c := range []struct {
		text, s string
		longest bool
		prefix  int
		begins  bool
		suffix  int
		ends    bool
	}{
		{"a*", "abc", false, 1, true, 3, true}, {"a*", "abc", true, 3, true, 3, true}, {"*c", "abc", false, 3, true, 1, true}, {"*c", "abc", true, 3, true, 3, true}, {"b", "abc", true, 0, false, 0, false}, {"b", "abc", false, 0, false, 0, false},
		{"", "abc", true, 0, true, 0, true}, {"", "", false, 0, true, 0, true}, {"*", "abc", false, 0, true, 0, true}, {"*", "abc", true, 3, true, 3, true}, {"?", "", true, 0, false, 0, false}, {"*/", "a/b/c", false, 2, true, 0, false}, {"*/", "a/b/c", true, 4, true, 0, false}, {"/*", "a/b/c", false, 0, false, 2, true}, {"/*", "a/b/c", true, 0, false, 4, true},
		{"abcd", "abc", true, 0, false, 0, false}, {"[ab]", "ab", true, 1, true, 1, true}, {"*a*", "bab", false, 2, true, 2, true}, {"*a*b", "aabab", false, 3, true, 2, true}, {"*a*b", "aabab", true, 5, true, 5, true},
	} {
		p := pattern.Compile(literal(c.text))
		if n, ok := pattern.Prefix(p, c.s, c.longest); n != c.prefix || ok != c.begins {
			t.Errorf("Prefix of %q and %q, %v, is %d, %v, want %d, %v", c.text, c.s, c.longest, n, ok, c.prefix, c.begins)
		}
		if n, ok := pattern.Suffix(p, c.s, c.longest); n != c.suffix || ok != c.ends {
			t.Errorf("Suffix of %q and %q, %v, is %d, %v, want %d, %v", c.text, c.s, c.longest, n, ok, c.suffix, c.ends)
		}
	}
}

// invalidItems are items that no valid pattern contains.
func invalidItems() []api.PatItem {
	spans := []api.Span{{Low: 'a', High: 'a'}}
	return []api.PatItem{
		{}, {Kind: -1}, {Kind: 5}, {Kind: 5, Text: "a"}, {Kind: 257, Text: "a"},
		{Kind: api.PatByte}, {Kind: api.PatByte, Text: "ab"}, {Kind: api.PatByte, Text: "é"}, {Kind: api.PatByte, Text: "a", Neg: true}, {Kind: api.PatByte, Text: "a", Set: spans},
		{Kind: api.PatAny, Text: "a"}, {Kind: api.PatAny, Neg: true}, {Kind: api.PatAny, Set: spans},
		{Kind: api.PatStar, Text: "*"}, {Kind: api.PatStar, Neg: true}, {Kind: api.PatStar, Set: spans},
		{Kind: api.PatSet, Text: "a", Set: spans}, {Kind: api.PatSet, Text: "a"},
		set(false, "ba"), set(true, "ba"), set(false, "bbaa"), set(false, "aaaa"), set(false, "acbd"), set(false, "azbc"), set(false, "aabb"), set(false, "acdf"), set(true, "aabb"), set(false, "\xff\xff\x00\x00"), set(false, "\xfe\xfe\xff\xff"), set(false, "\x00\x00\x01\x01"), set(false, "\x00\xff\x00\xff"), set(false, "\xff\xff\xff\xff"),
	}
}

func TestInvalidPatterns(t *testing.T) {
	for _, bad := range invalidItems() {
		for _, p := range [][]api.PatItem{{bad}, items(star, bad), items(bad, star), items(bytesOf("a"), bad), items(bad, bytesOf("a"))} {
			for _, s := range []string{"", "a", "ab", "aa", "é"} {
				if pattern.Match(p, s) {
					t.Errorf("%v matches %q", p, s)
				}
				for _, longest := range []bool{false, true} {
					n, ok := pattern.Prefix(p, s, longest)
					m, is := pattern.Suffix(p, s, longest)
					if n != 0 || ok || m != 0 || is {
						t.Errorf("Prefix and Suffix of %v and %q are %d, %v and %d, %v", p, s, n, ok, m, is)
					}
				}
			}
			if l := pattern.Runs(p); len(l) != 0 {
				t.Errorf("Runs(%v) are %v", p, l)
			}
			if s, ok := pattern.Literal(p); s != "" || ok {
				t.Errorf("Literal(%v) is %q, %v", p, s, ok)
			}
		}
	}
}

func TestLiteral(t *testing.T) {
	for _, s := range []string{"", "a", "a*b", "é\xff\x00", strings.Repeat("x", 5000)} {
		if text, ok := pattern.Literal(bytesOf(s)); text != s || !ok {
			t.Errorf("Literal of the bytes %q is %q, %v", s, text, ok)
		}
	}
	for _, item := range items(anyByte, star, set(false, "aa"), set(false, ""), set(true, "")) {
		for _, p := range [][]api.PatItem{{item}, items(bytesOf("ab"), item), items(item, bytesOf("ab"))} {
			if text, ok := pattern.Literal(p); text != "" || ok {
				t.Errorf("Literal(%v) is %q, %v", p, text, ok)
			}
		}
	}
}

// TestConsequences checks P4.6 for all small patterns.
func TestConsequences(t *testing.T) {
	eachPattern(someItems(), 3, func(p []api.PatItem) {
		if q := pattern.Compile(pattern.Runs(p)); !samePattern(p, q) {
			t.Errorf("Compile(Runs(%v)) is %v", p, q)
		}
		small.Each([]string{"a", "b"}, 3, func(s string) {
			short, is := pattern.Prefix(p, s, false)
			long, ok := pattern.Prefix(p, s, true)
			if is != ok || short > long || ok && !(pattern.Match(p, s[:short]) && pattern.Match(p, s[:long])) {
				t.Errorf("the prefixes of %v and %q are %d, %v and %d, %v", p, s, short, is, long, ok)
			}
			if pattern.Match(items(p, star), s) != ok {
				t.Errorf("%v and a star, and %q", p, s)
			}
		})
	})
}

// TestLongMatches checks that many stars take no exponential time.
func TestLongMatches(t *testing.T) {
	p := pattern.Compile(literal(strings.Repeat("a*", 200) + "b"))
	s := strings.Repeat("a", 5000)
	if pattern.Match(p, s) || !pattern.Match(p, s+"b") {
		t.Error("Match of many stars")
	}
	if n, ok := pattern.Prefix(p, s+"b"+s, true); n != 5001 || !ok {
		t.Errorf("Prefix of many stars is %d, %v", n, ok)
	}
	if n, ok := pattern.Suffix(p, s+"b", false); n != 201 || !ok {
		t.Errorf("Suffix of many stars is %d, %v", n, ok)
	}
}

// TestPatternIsKept checks that no function changes the pattern.
func TestPatternIsKept(t *testing.T) {
	p := items(bytesOf("a"), set(false, "acxz"), star, make([]api.PatItem, 3))[:3]
	before := items(p)
	pattern.Match(p, "abc")
	pattern.Prefix(p, "abc", true)
	pattern.Suffix(p, "abc", true)
	pattern.Literal(p)
	pattern.Runs(p)
	if !samePattern(p, before) || !samePattern(p[:6][3:], make([]api.PatItem, 3)) {
		t.Errorf("the pattern is %v", p)
	}
}
