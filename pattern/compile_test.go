package pattern_test

import (
	"slices"
	"strings"
	"testing"

	"jobshell/api"
	"jobshell/pattern"
)

const asciiLetters = "AZaz"

func TestCompile(t *testing.T) {
	for text, want := range map[string][]api.PatItem{
		"": nil, "ab": bytesOf("ab"), "é\xff\x00": bytesOf("é\xff\x00"), "\\*": items(bytesOf("\\"), star), "**?": items(star, star, anyByte), "/.*": items(bytesOf("/."), star), "]-!^:": bytesOf("]-!^:"),
		"a*[!0-9]": items(bytesOf("a"), star, set(true, "09")), "[]a]": items(set(false, "]]aa")), "[a": bytesOf("[a"), "[]": bytesOf("[]"), "[!]": bytesOf("[!]"), "[^]": bytesOf("[^]"), "[": bytesOf("["), "[!": bytesOf("[!"), "[]]": items(set(false, "]]")), "[!]]": items(set(true, "]]")), "[^]]": items(set(true, "]]")),
		"[a-]": items(set(false, "--aa")), "[-a]": items(set(false, "--aa")), "[--0]": items(set(false, "-0")), "[b-a]": items(set(false, "")), "[!b-a]": items(set(true, "")), "[a-a]": items(set(false, "aa")), "[a-c]x": items(set(false, "ac"), bytesOf("x")), "[a-c-e]": items(set(false, "--acee")), "[a--]": items(set(false, "")), "[+--]": items(set(false, "+-")), "[---]": items(set(false, "--")),
		"[!!]": items(set(true, "!!")), "[!^]": items(set(true, "^^")), "[^!]": items(set(true, "!!")), "[a!]": items(set(false, "!!aa")), "[!a^]": items(set(true, "^^aa")), "[!-a]": items(set(true, "--aa")), "[!!-a]": items(set(true, "!a")),
		"[]-a]": items(set(false, "]a")), "[^]-a]": items(set(true, "]a")), "[]-]": items(set(false, "--]]")), "[a]]": items(set(false, "aa"), bytesOf("]")), "[]a": bytesOf("[]a"), "[[]": items(set(false, "[[")), "[[a]": items(set(false, "[[aa")), "[a[b]": items(set(false, "[[ab")), "[[[]]": items(set(false, "[["), bytesOf("]")),
		"[*?]": items(set(false, "**??")), "[a\\]": items(set(false, "\\\\aa")), "[a/b]": items(set(false, "//ab")), "[cab]": items(set(false, "ac")), "[a-cb-d]": items(set(false, "ad")), "[a-cd-f]": items(set(false, "af")), "[a-ce-g]": items(set(false, "aceg")), "[x-za-c]": items(set(false, "acxz")), "[aaa]": items(set(false, "aa")), "[\xfe-\xff]": items(set(false, "\xfe\xff")), "[\x00-\xff]": items(set(false, "\x00\xff")), "[é]": items(set(false, "\xa9\xa9\xc3\xc3")),
		"[[:digit:]x]": items(set(false, "09xx")), "[[:no:]]": items(set(false, "::[[no"), bytesOf("]")), "[![:digit:]]": items(set(true, "09")), "[^[:upper:][:lower:]]": items(set(true, asciiLetters)), "[[:digit:]-z]": items(set(false, "--09zz")), "[a-[:digit:]]": items(set(false, "::ddggiitt"), bytesOf("]")), "[!-[:digit:]]": items(set(true, "--09")), "[--[:digit:]]": items(set(false, "-[ddggiitt"), bytesOf("]")),
		"[:digit:]": items(set(false, "::ddggiitt")), "[[:digit:]": items(bytesOf("["), set(false, "::ddggiitt")), "[[:Digit:]]": items(set(false, "::DD[[ggiitt"), bytesOf("]")), "[[:digit]]": items(set(false, "::[[ddggiitt"), bytesOf("]")), "[[:digit:": bytesOf("[[:digit:"), "[[:digit:x]": items(set(false, "::[[ddggiittxx")), "[[:alpha:][:digit:]]": items(set(false, "09AZaz")), "[][:digit:]]": items(set(false, "09]]")), "[[::]]": items(set(false, "::[["), bytesOf("]")), "[[:xdigit:]]": items(set(false, "::[[ddggiittxx"), bytesOf("]")), "[[=a=]]": items(set(false, "==[[aa"), bytesOf("]")), "[[.a.]]": items(set(false, "..[[aa"), bytesOf("]")),
		"[a*": items(bytesOf("[a"), star), "[a?[b]": items(set(false, "??[[ab")), "[!?": items(bytesOf("[!"), anyByte), "[a-": bytesOf("[a-"), "[a][b": items(set(false, "aa"), bytesOf("[b")), "x[a]*": items(bytesOf("x"), set(false, "aa"), star),
	} {
		if p := pattern.Compile(literal(text)); !samePattern(p, want) {
			t.Errorf("Compile of %q is %v, want %v", text, p, want)
		}
	}
}

func TestCompileClasses(t *testing.T) {
	for name, pairs := range map[string]string{
		"alpha": asciiLetters, "digit": "09", "alnum": "09" + asciiLetters, "upper": "AZ", "lower": "az", "space": "\x09\x0d\x20\x20", "blank": "\x09\x09\x20\x20", "punct": "\x21\x2f\x3a\x40\x5b\x60\x7b\x7e",
	} {
		if p := pattern.Compile(literal("[[:" + name + ":]]")); !samePattern(p, items(set(false, pairs))) {
			t.Errorf("Compile of the class %s is %v, want %q", name, p, pairs)
		}
	}
	for _, name := range []string{"", "cntrl", "graph", "print", "xdigit", "word", "ALPHA", "alph", "alphaa", " alpha", "alpha ", "al\x00pha"} {
		text := "[[:" + name + ":]]"
		if p := pattern.Compile(literal(text)); len(p) != 2 || !samePattern(p[1:], bytesOf("]")) || !pattern.Match(p, ":]") || !pattern.Match(p, "[]") {
			t.Errorf("Compile of %q is %v", text, p)
		}
	}
}

// quotedRuns returns runs of the parts, whose classes alternate between CLit and CQuoted.
func quotedRuns(parts ...string) []api.Run {
	var l []api.Run
	for i, s := range parts {
		l = append(l, api.Run{Text: s, Class: i % 2})
	}
	return l
}

func TestCompileQuoted(t *testing.T) {
	for _, c := range []struct {
		l    []api.Run
		want []api.PatItem
	}{
		{quotedRuns("", "a*?[b]"), bytesOf("a*?[b]")}, {quotedRuns("*", "*"), items(star, bytesOf("*"))}, {quotedRuns("", "[", "a]"), bytesOf("[a]")}, {quotedRuns("[a", "]"), bytesOf("[a]")},
		{quotedRuns("[", "]", "]"), items(set(false, "]]"))}, {quotedRuns("[a", "]", "]"), items(set(false, "]]aa"))}, {quotedRuns("[!", "]", "]"), items(set(true, "]]"))}, {quotedRuns("[", "!", "a]"), items(set(false, "!!aa"))}, {quotedRuns("[", "^", "a]"), items(set(false, "^^aa"))}, {quotedRuns("[", "!", "]"), items(set(false, "!!"))},
		{quotedRuns("[a", "-", "c]"), items(set(false, "--aacc"))}, {quotedRuns("[", "a", "-", "c", "]"), items(set(false, "ac"))}, {quotedRuns("[+-", "]", "]"), items(set(false, "+]"))}, {quotedRuns("[", "]", "-a]"), items(set(false, "]a"))}, {quotedRuns("[a", "]", "-b]"), items(set(false, "]b"))}, {quotedRuns("[a-", "-", "]"), items(set(false, ""))},
		{quotedRuns("[", "[", ":digit:]]"), items(set(false, "::[[ddggiitt"), bytesOf("]"))}, {quotedRuns("[[", ":", "digit:]]"), items(set(false, "::[[ddggiitt"), bytesOf("]"))}, {quotedRuns("[[:", "digit", ":]]"), items(set(false, "::[[ddggiitt"), bytesOf("]"))}, {quotedRuns("[[:digit", ":", "]]"), items(set(false, "::[[ddggiitt"), bytesOf("]"))}, {quotedRuns("[[:digit:", "]", "]"), items(set(false, "::[[]]ddggiitt"))},
		{quotedRuns("[", "é", "]"), items(set(false, "\xa9\xa9\xc3\xc3"))},
	} {
		if p := pattern.Compile(c.l); !samePattern(p, c.want) {
			t.Errorf("Compile(%v) is %v, want %v", c.l, p, c.want)
		}
	}
}

func TestCompileOtherClasses(t *testing.T) {
	want := items(bytesOf("a"), set(false, "bd"), star)
	for _, l := range [][]api.Run{
		{{Text: "a[b-d]*", Class: api.CExpanded}},
		{{Text: "a[", Class: api.CExpanded}, {Text: "b-", Class: api.CLit}, {Text: "d]*", Class: api.CExpanded}},
		{{Text: "a[b", Class: api.CLit}, {Text: "x*", Class: api.CBreak}, {Text: "-d]", Class: api.CLit}, {Text: "?", Class: 4}, {Text: "[", Class: -1}, {Text: "*", Class: api.CExpanded}, {Text: "]", Class: 1000}},
	} {
		if p := pattern.Compile(l); !samePattern(p, want) {
			t.Errorf("Compile(%v) is %v", l, p)
		}
	}
	for _, l := range [][]api.Run{nil, {{}}, {{Text: "*?[a]", Class: api.CBreak}}, {{Text: "", Class: api.CQuoted}, {Text: "a", Class: 4}}} {
		if p := pattern.Compile(l); len(p) != 0 {
			t.Errorf("Compile(%v) is %v", l, p)
		}
	}
}

func TestCompileBoundaries(t *testing.T) {
	for _, text := range []string{"a*[!0-9]?", "[[:digit:]x]", "[[:alpha:]", "[]-a]*", "[a-]]", "[!]"} {
		want := pattern.Compile(literal(text))
		for i := range len(text) + 1 {
			for j := i; j <= len(text); j++ {
				l := []api.Run{{Text: text[:i], Class: api.CLit}, {Text: text[i:j], Class: api.CExpanded}, {Text: "", Class: api.CQuoted}, {Text: text[j:], Class: api.CLit}}
				if p := pattern.Compile(l); !samePattern(p, want) {
					t.Errorf("Compile(%v) is %v, want %v", l, p, want)
				}
			}
		}
	}
}

func TestSpecial(t *testing.T) {
	for text, want := range map[string]bool{
		"": false, "a": false, "[a": false, "[]": false, "]-!^": false, "\\": false, "*": true, "a?": true, "[a]": true, "[b-a]": true, "[!b-a]x": true, "[a*": true,
	} {
		for _, class := range []int{api.CLit, api.CExpanded} {
			if pattern.Special([]api.Run{{Text: text, Class: class}}) != want {
				t.Errorf("Special of %q of class %d is %v", text, class, !want)
			}
		}
		if pattern.Special([]api.Run{{Text: text, Class: api.CQuoted}, {Text: text, Class: api.CBreak}, {Text: text, Class: 9}}) {
			t.Errorf("Special of the quoted %q", text)
		}
	}
	if !pattern.Special(quotedRuns("[", "*", "]")) || pattern.Special(quotedRuns("[a", "]")) || !pattern.Special(quotedRuns("", "*", "*")) {
		t.Error("Special of runs of both classes")
	}
}

func TestRuns(t *testing.T) {
	check := func(p []api.PatItem) {
		if q := pattern.Compile(pattern.Runs(p)); !samePattern(p, q) {
			t.Errorf("Compile(Runs(%v)) is %v", p, q)
		}
	}
	check(nil)
	for _, neg := range []bool{false, true} {
		check(items(set(neg, "")))
		check(items(set(neg, "!!--[[]^")))
		check(items(set(neg, "--::[[aa")))
		check(items(star, set(neg, "\x00\x00\xff\xff"), anyByte, bytesOf("]")))
		for low := range 256 {
			for high := low; high < 256; high++ {
				check(items(set(neg, string([]byte{byte(low), byte(high)}))))
			}
		}
	}
	for b := range 256 {
		check(bytesOf(string([]byte{byte(b)})))
		check(items(bytesOf("["), bytesOf(string([]byte{byte(b)})), bytesOf("a]")))
	}
	all := ""
	for b := 0; b < 256; b += 2 {
		all += string([]byte{byte(b), byte(b)})
	}
	check(items(set(false, all), set(true, all)))
}

// TestRunsAreKept checks that Compile does not change its argument, and returns new memory.
func TestRunsAreKept(t *testing.T) {
	l := quotedRuns("[a-c]", "x", "[a-c]")
	p := pattern.Compile(l)
	p[0].Set[0] = api.Span{Low: 'z', High: 'z'}
	if !slices.Equal(l, quotedRuns("[a-c]", "x", "[a-c]")) || !samePattern(p[2:], items(set(false, "ac"))) || !samePattern(pattern.Compile(l)[:1], items(set(false, "ac"))) {
		t.Errorf("the runs are %v, the pattern %v", l, p)
	}
}

// TestManyBrackets checks that brackets without ends take no quadratic time.
func TestManyBrackets(t *testing.T) {
	for _, text := range []string{"[", "[!", "[a-", "[[:alpha:]", "[]", "[![:digit:]-"} {
		if p := pattern.Compile(literal(strings.Repeat(text, 200000))); len(p) == 0 {
			t.Errorf("Compile of many %q", text)
		}
	}
}
