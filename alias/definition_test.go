package alias_test

import (
	"slices"
	"strings"
	"testing"

	"jobshell/alias"
	"jobshell/api"
	"jobshell/lexer"
	"jobshell/small"
	"jobshell/words"
)

// The tests of this file compare Expand with a model in which each byte of the text knows the value that it comes from.

// origin is a value that was substituted. Its parent is the value in which that was done, or nil.
type origin struct {
	name   string
	parent *origin
	blank  bool // a token after it is in command position because of it
}

type model struct {
	text    []byte
	origins []*origin    // of each byte, the innermost one
	blanks  []*origin    // those that end with a blank
	at      int          // where the next token is looked for
	passed  []api.Token  // the tokens since the last newline
	command map[int]bool // which of them were in command position
	first   bool         // the next token is the first one of the string or of a value
	aliases map[string]string
}

// within reports whether a byte belongs to a value.
func (m *model) within(i int, o *origin) bool {
	for p := m.origins[i]; p != nil; p = p.parent {
		if p == o {
			return true
		}
	}
	return false
}

// afterBlank reports whether a token is the first one behind a value that ends with a blank.
func (m *model) afterBlank(pos int) bool {
	after := false
	for _, o := range m.blanks {
		last := len(m.text) - 1
		for !m.within(last, o) {
			last--
		}
		if o.blank && last < pos {
			o.blank = false
			after = true
		}
	}
	return after
}

func (m *model) inCommandPosition(pos int) bool {
	if m.afterBlank(pos) || m.first {
		return true
	}
	n := len(m.passed) - 1
	if n < 0 {
		return true // a newline precedes
	}
	previous := m.passed[n].Text
	return slices.Contains([]string{";", "&", "&&", "||", "|", "("}, previous) || m.command[n] && strings.Contains(" ! { do elif else if then until while ", " "+previous+" ")
}

func (m *model) isNested(pos int, name string) bool {
	for p := m.origins[pos]; p != nil; p = p.parent {
		if p.name == name {
			return true
		}
	}
	return false
}

func (m *model) replace(token api.Token, value string) {
	o := &origin{name: token.Text, parent: m.origins[token.Pos], blank: strings.HasSuffix(value, " ") || strings.HasSuffix(value, "\t")}
	if o.blank {
		m.blanks = append(m.blanks, o)
	}
	m.text = slices.Replace(m.text, token.Pos, token.End, []byte(value)...)
	m.origins = slices.Replace(m.origins, token.Pos, token.End, slices.Repeat([]*origin{o}, len(value))...)
	m.at, m.first = token.Pos, true
}

// endLine skips the contents of the here-documents of the line that has ended.
func (m *model) endLine() {
	for i := range len(m.passed) - 1 {
		operator, next := m.passed[i].Text, m.passed[i+1]
		if operator != "<<" && operator != "<<-" || next.Kind != api.TWord {
			continue
		}
		parts, _, errno := words.Parse(next.Text)
		delimiter, ok := words.Literal(parts)
		if errno == api.OK && ok {
			m.skip(delimiter, operator == "<<-")
		}
	}
	m.passed, m.command = nil, map[int]bool{}
}

// skip skips lines, up to and including a delimiter.
func (m *model) skip(delimiter string, tabs bool) {
	for _, line := range strings.SplitAfter(string(m.text[m.at:]), "\n") {
		m.at += len(line)
		line = strings.TrimSuffix(line, "\n")
		if tabs {
			line = strings.TrimLeft(line, "\t")
		}
		if line == delimiter {
			return
		}
	}
}

// step examines a token, and reports whether there is one.
func (m *model) step() bool {
	token, errno := lexer.Next(string(m.text), m.at)
	if errno != api.OK || token.Kind == api.TEnd {
		return false
	}
	command := m.inCommandPosition(token.Pos)
	value, ok := m.aliases[token.Text]
	if ok && command && token.Kind == api.TWord && !m.isNested(token.Pos, token.Text) {
		m.replace(token, value)
		return true
	}
	m.command[len(m.passed)] = command
	m.passed = append(m.passed, token)
	m.at, m.first = token.End, false
	if token.Kind == api.TNewline {
		m.endLine()
	}
	return true
}

// expand returns by definition the result of Expand for valid aliases and a short string.
func expand(s string, aliases map[string]string) string {
	m := model{text: []byte(s), origins: make([]*origin, len(s)), command: map[int]bool{}, first: true, aliases: aliases}
	for m.step() {
	}
	return string(m.text)
}

func compare(t *testing.T, s string, l []api.Alias, m map[string]string) {
	t.Helper()
	if got, errno := alias.Expand(s, l); got != expand(s, m) || errno != api.OK {
		t.Fatalf("Expand(%q, %q) is %q, %d, want %q", s, l, got, errno, expand(s, m))
	}
}

// TestSmallValues expands all short strings with two aliases that have many values.
func TestSmallValues(t *testing.T) {
	values := []string{"", " ", "a", "b", "a ", "b ", "b b", "x", ";b ", "if", "x;if ", "'", "x\\", "#", "(a b ", "\n", "b\n", "x <<", "<<b ", "a;b\t"}
	for _, a := range values {
		for _, b := range values {
			m := map[string]string{"a": a, "b": b}
			l := fromMap(m)
			small.Each([]string{"a", "b", " ", ";", "\n", "if ", "<<", "'", "x"}, 3, func(s string) { compare(t, s, l, m) })
			for _, s := range []string{"a b a b", "a a a", "a b' a", "if a if b a", "x a; a b\na", "(a|b)&&b||a", "a <<b\nb\nb\na", "a >b a b", "a \\\nb #a\nb", "a;b;a b"} {
				compare(t, s, l, m)
			}
		}
	}
}

// TestSmallStrings expands longer strings with a few aliases.
func TestSmallStrings(t *testing.T) {
	for _, m := range []map[string]string{
		{"a": "b ", "b": "x", "c": "y"},
		{"a": "b c", "b": "a ", "c": ""},
		{"a": "x if ", "b": "if ", "c": "do;"},
		{"a": "c a\t", "b": "a c", "c": "b b "},
	} {
		l := fromMap(m)
		small.Each([]string{"a", "b", "c", " ", ";", "do ", "\n"}, 6, func(s string) { compare(t, s, l, m) })
	}
}

// TestSmallHereDocuments expands here-documents of all short lines.
func TestSmallHereDocuments(t *testing.T) {
	for _, m := range []map[string]string{
		{"a": "x", "e": "y"},
		{"a": "x <<", "e": "a "},
		{"a": "cat <<- ", "e": "e\n\te"},
		{"a": "<<e\n", "e": ""},
	} {
		l := fromMap(m)
		small.Each([]string{"a", "e", "\n", "\t", "<<e", "<<-e", "<<'a'", ";", " "}, 5, func(s string) {
			compare(t, s, l, m)
			compare(t, "x <<e <<-a\n"+s, l, m)
		})
	}
}
