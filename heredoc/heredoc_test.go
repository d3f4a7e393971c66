package heredoc_test

import (
	"regexp"
	"slices"
	"strconv"
	"strings"
	"testing"

	"jobshell/api"
	"jobshell/heredoc"
	"jobshell/small"
	"jobshell/words"
)

var documentForms = map[api.Delim]*regexp.Regexp{}

// documentForm returns the form of the lines of a here-document, and the line that terminates it.
func documentForm(d api.Delim) *regexp.Regexp {
	if documentForms[d] == nil {
		tabs := map[bool]string{true: `\t*`}[d.Strip]
		documentForms[d] = regexp.MustCompile(`^((?:[^\n]*\n)*?)(` + tabs + regexp.QuoteMeta(d.Text) + `(?:\n|\z))`)
	}
	return documentForms[d]
}

var leadingTabs = regexp.MustCompile(`(?m)^\t+`)

// read returns by definition the result of Read.
func read(s string, at int, l []api.Delim) ([]string, int, api.Errno) {
	if at < 0 || at > len(s) {
		return nil, 0, api.ErrRange
	}
	var contents []string
	for _, d := range l {
		m := documentForm(d).FindStringSubmatch(s[at:])
		never := strings.Contains(d.Text, "\n") || d.Strip && strings.HasPrefix(d.Text, "\t")
		if never || m == nil || m[2] == "" {
			return nil, at, api.ErrIncomplete
		}
		text := m[1]
		if d.Strip {
			text = leadingTabs.ReplaceAllString(text, "")
		}
		contents = append(contents, text)
		at += len(m[0])
	}
	return contents, at, api.OK
}

func checkRead(t *testing.T, s string, at int, l []api.Delim) {
	t.Helper()
	contents, end, errno := heredoc.Read(s, at, l)
	want, wantEnd, wantErrno := read(s, at, l)
	if !slices.Equal(contents, want) || end != wantEnd || errno != wantErrno {
		t.Fatalf("Read(%q, %d, %v) is %q, %d, %d, want %q, %d, %d", s, at, l, contents, end, errno, want, wantEnd, wantErrno)
	}
}

func TestReadSmall(t *testing.T) {
	delims := []api.Delim{{Text: "E"}, {Text: "E", Strip: true, Quoted: true}, {}, {Strip: true}, {Text: "a"}, {Text: "\tE", Strip: true}, {Text: "\tE"}, {Text: "E\n"}, {Text: "a\nE"}}
	var lists [][]api.Delim
	for _, a := range delims {
		lists = append(lists, []api.Delim{a})
		for _, b := range delims[:5] {
			lists = append(lists, []api.Delim{a, b})
		}
	}
	small.Each([]string{"E", "\t", "\n", "a"}, 6, func(s string) {
		for _, l := range lists {
			checkRead(t, s, 0, l)
		}
	})
	small.Each([]string{"E", "\t", "\n"}, 5, func(s string) {
		for at := -1; at <= len(s)+1; at++ {
			checkRead(t, s, at, nil)
			for _, l := range lists {
				checkRead(t, s, at, l)
			}
		}
	})
}

func TestRead(t *testing.T) {
	for _, c := range []struct {
		s    string
		at   int
		l    []api.Delim
		want []string
		end  int
		e    api.Errno
	}{
		{"a\nE\nb", 0, []api.Delim{{Text: "E"}}, []string{"a\n"}, 4, api.OK},
		{"a\nE\nb", 0, []api.Delim{{Text: "b"}}, []string{"a\nE\n"}, 5, api.OK},
		{"\t\tx\n\tE", 0, []api.Delim{{Text: "E", Strip: true}}, []string{"x\n"}, 6, api.OK},
		{"\tx\n\tE\nE\n", 0, []api.Delim{{Text: "E"}}, []string{"\tx\n\tE\n"}, 8, api.OK},
		{"E\n", 0, []api.Delim{{Text: "E"}}, []string{""}, 2, api.OK},
		{"a\n\nb", 0, []api.Delim{{}}, []string{"a\n"}, 3, api.OK},
		{"cat\na\nE\nb\nF\nc", 4, []api.Delim{{Text: "E"}, {Text: "F"}}, []string{"a\n", "b\n"}, 12, api.OK},
		{"cat\na\nE\nb\n", 4, []api.Delim{{Text: "E"}, {Text: "F"}}, nil, 8, api.ErrIncomplete},
		{"a\nE\n", 0, []api.Delim{{Text: "E"}, {Text: "E"}}, nil, 4, api.ErrIncomplete},
		{"a\n E\nE \naE\nEa\n\\E\ne\n", 0, []api.Delim{{Text: "E"}}, nil, 0, api.ErrIncomplete},
		{"a\n", 0, []api.Delim{{}}, nil, 0, api.ErrIncomplete},
		{"a\r\nE\r\nE", 0, []api.Delim{{Text: "E"}}, []string{"a\r\nE\r\n"}, 7, api.OK},
		{"a\\\nE\n", 0, []api.Delim{{Text: "E"}}, []string{"a\\\n"}, 5, api.OK},
		{"", 0, nil, nil, 0, api.OK},
		{"ab", 2, nil, nil, 2, api.OK},
		{"", 0, []api.Delim{{}}, nil, 0, api.ErrIncomplete},
		{"ab", 3, nil, nil, 0, api.ErrRange},
		{"ab", -1, []api.Delim{{Text: "ab"}}, nil, 0, api.ErrRange},
		{"ab", 1 << 62, []api.Delim{{Text: "ab"}}, nil, 0, api.ErrRange},
		{"ab", -1 << 62, nil, nil, 0, api.ErrRange},
	} {
		contents, end, errno := heredoc.Read(c.s, c.at, c.l)
		if !slices.Equal(contents, c.want) || end != c.end || errno != c.e {
			t.Errorf("Read(%q, %d, %v) is %q, %d, %d, want %q, %d, %d", c.s, c.at, c.l, contents, end, errno, c.want, c.end, c.e)
		}
	}
}

// TestReadLarge reads here-documents that are longer than any program.
func TestReadLarge(t *testing.T) {
	body := strings.Repeat("x\n", 4*api.MaxText)
	s := strings.Repeat(body+"E\n", 3)
	contents, end, errno := heredoc.Read(s, 0, []api.Delim{{Text: "E"}, {Text: "E"}, {Text: "E"}})
	if len(contents) != 3 || contents[2] != body || end != len(s) || errno != api.OK {
		t.Errorf("Read of long contents is %d strings, %d, %d", len(contents), end, errno)
	}
}

func TestArgumentsStay(t *testing.T) {
	l := []api.Delim{{Text: "E"}, {Text: "F", Strip: true}, {Text: "spare"}}
	before := slices.Clone(l)
	if _, _, errno := heredoc.Read("a\nE\n\tF\n", 0, l[:2]); errno != api.OK || !slices.Equal(l, before) {
		t.Errorf("Read changes its delimiters to %v, %d", l, errno)
	}
}

func TestStrip(t *testing.T) {
	small.Each([]string{"\t", "\n", "a", " "}, 6, func(s string) {
		got, want := heredoc.Strip(s), leadingTabs.ReplaceAllString(s, "")
		if got != want {
			t.Fatalf("Strip(%q) is %q, want %q", s, got, want)
		}
		if again := heredoc.Strip(got); again != got {
			t.Fatalf("Strip(%q) is %q", got, again)
		}
	})
	for s, want := range map[string]string{
		"\ta\n \tb": "a\n \tb", "\t\t\n\t": "\n", "a\tb\t\n": "a\tb\t\n", "\\\n\ta": "\\\na", "\v\ta": "\v\ta", "\r\n\ta": "\r\na",
	} {
		if got := heredoc.Strip(s); got != want {
			t.Errorf("Strip(%q) is %q, want %q", s, got, want)
		}
	}
}

// TestStripOfContents checks that tabs are removed from the same lines that are read without Strip.
func TestStripOfContents(t *testing.T) {
	small.Each([]string{"\t", "\n", "a", "\tb\n"}, 5, func(s string) {
		if !strings.HasSuffix(s, "\n") {
			return
		}
		s += "E\n"
		plain, _, errno := heredoc.Read(s, 0, []api.Delim{{Text: "E"}})
		stripped, _, errno2 := heredoc.Read(s, 0, []api.Delim{{Text: "E", Strip: true}})
		if errno != api.OK || errno2 != api.OK || stripped[0] != heredoc.Strip(plain[0]) {
			t.Fatalf("Read(%q) is %q, %d, and with Strip %q, %d", s, plain, errno, stripped, errno2)
		}
	})
}

func TestBody(t *testing.T) {
	for _, s := range []string{
		"", "a\n", "a $x `b` $(c) $((1+2)) \"d\" 'e' \\$ \\a\\\n\n", "${x:-'}", "$(", "a ${x", "`", "a\n$((", "${x!}", "a\\", "~", "$" + strings.Repeat("x", 33), strings.Repeat("a", api.MaxText), strings.Repeat("a", api.MaxText+1),
		"$((1) 2))", strings.Repeat("${x-", api.MaxDepth) + strings.Repeat("}", api.MaxDepth),
	} {
		l, at, errno := heredoc.Body(s, false)
		if want, wantAt, wantErrno := words.Here(s); !words.Same(l, want) || at != wantAt || errno != wantErrno {
			t.Errorf("Body(%.20q) is %v, %d, %d, want %v, %d, %d", s, l, at, errno, want, wantAt, wantErrno)
		}
		var want []api.Part
		if s != "" {
			want = []api.Part{{Kind: api.PQuoted, Text: s}}
		}
		if l, at, errno := heredoc.Body(s, true); !words.Same(l, want) || at != 0 || errno != api.OK {
			t.Errorf("Body of the quoted %.20q is %v, %d, %d", s, l, at, errno)
		}
	}
	l, at, errno := heredoc.Body("a\"$x\n", false)
	if want := []api.Part{{Kind: api.PText, Text: "a\""}, {Kind: api.PParam, Text: "x"}, {Kind: api.PText, Text: "\n"}}; !words.Same(l, want) || at != 0 || errno != api.OK {
		t.Errorf("Body is %v, %d, %d, want %v", l, at, errno, want)
	}
	if l, at, errno := heredoc.Body("ab ${x", false); len(l) != 0 || at != 3 || errno != api.ErrIncomplete {
		t.Errorf("Body of an open parameter is %v, %d, %d", l, at, errno)
	}
}

// delimiter returns by definition the result of Delimiter.
func delimiter(s string) string {
	taken := strings.Split(s, "\n")
	for i := 0; ; i++ {
		text := "EOF"
		if i > 0 {
			text += strconv.Itoa(i)
		}
		if !slices.Contains(taken, text) {
			return text
		}
	}
}

func TestDelimiter(t *testing.T) {
	pieces := []string{"EOF", "EOF1", "EOF2", "1", "\n", "\nEOF", " ", "\t"}
	small.Each(pieces, 5, func(s string) {
		if got, want := heredoc.Delimiter(s), delimiter(s); got != want {
			t.Fatalf("Delimiter(%q) is %q, want %q", s, got, want)
		}
	})
	for s, want := range map[string]string{
		"": "EOF", "EOF": "EOF1", "EOF\n": "EOF1", "EOF\nEOF1": "EOF2", "EOF1\nEOF": "EOF2", "EOF2\nEOF": "EOF1", "EOF0\nEOF01\nEOF": "EOF1", "eof\n EOF\nEOF \nxEOF": "EOF", "\tEOF": "EOF", "EOF\r\n": "EOF",
	} {
		if got := heredoc.Delimiter(s); got != want {
			t.Errorf("Delimiter(%q) is %q, want %q", s, got, want)
		}
	}
}

// TestDelimiterLarge takes too long if each candidate is looked for in all lines.
func TestDelimiterLarge(t *testing.T) {
	var s strings.Builder
	s.WriteString("EOF\n")
	for i := range 200000 {
		s.WriteString("EOF" + strconv.Itoa(i+1) + "\n")
	}
	if got := heredoc.Delimiter(s.String()); got != "EOF200001" {
		t.Errorf("Delimiter of many lines is %q", got)
	}
}

func TestRoundTrip(t *testing.T) {
	small.Each([]string{"EOF", "EOF1", "\n", "\t", "1"}, 5, func(s string) {
		if s != "" && !strings.HasSuffix(s, "\n") {
			return
		}
		d := heredoc.Delimiter(s)
		for _, after := range []string{"", "\n", "\nEOF\n", "\n" + d + "\n"} {
			contents, end, errno := heredoc.Read(s+d+after, 0, []api.Delim{{Text: d}})
			if want := min(len(s+d)+1, len(s+d+after)); len(contents) != 1 || contents[0] != s || end != want || errno != api.OK {
				t.Fatalf("Read of the contents %q, %q and %q is %q, %d, %d", s, d, after, contents, end, errno)
			}
		}
	})
}
