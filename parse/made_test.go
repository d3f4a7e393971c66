package parse_test

import (
	"fmt"
	"math/rand"
	"strings"
	"testing"

	"jobshell/api"
	"jobshell/heredoc"
	"jobshell/lexer"
	"jobshell/parse"
	"jobshell/syntax"
	"jobshell/words"
)

// maker writes random programs, and makes the nodes that they are to be parsed as. With plain, there are no words but a and b, no here-documents, and not much between the tokens.
type maker struct {
	r       *rand.Rand
	plain   bool
	s       []byte
	starts  []int // of tokens
	isWord  bool  // the last token is a word
	awaited []awaited
}

// awaited is a here-document whose contents have not been written.
type awaited struct {
	target *api.Word
	delim  api.Delim
}

func (m *maker) chance(n int) bool { return m.r.Intn(n) == 0 }

func (m *maker) pick(l ...string) string { return l[m.r.Intn(len(l))] }

// token writes a token and what separates it from the last one, and returns its offset.
func (m *maker) token(s string) int {
	isWord := !lexer.Operator(s)
	gaps := []string{" ", "\t", " \\\n", "  ", " \\\n\\\n\t"}
	if isWord != m.isWord || s == "(" || s == ")" {
		gaps = append(gaps, "", "")
	}
	if !m.isWord {
		gaps = append(gaps, "\\\n", "\\\n\t")
	}
	if m.plain {
		gaps = []string{" "}
	}
	if len(m.s) > 0 {
		m.s = append(m.s, m.pick(gaps...)...)
	}
	m.starts = append(m.starts, len(m.s))
	m.s = append(m.s, s...)
	m.isWord = isWord
	return len(m.s) - len(s)
}

// newline writes a newline, and the contents that follow it.
func (m *maker) newline() {
	if m.chance(4) && !m.plain {
		m.s = append(m.s, m.pick(" #", " # 'a $( \\", "\t#<<E `;;")...)
		m.s = append(m.s, '\n')
		m.isWord = false
	} else {
		m.token("\n")
	}
	for _, a := range m.awaited {
		m.contents(a)
	}
	m.awaited = nil
}

// contents writes a here-document.
func (m *maker) contents(a awaited) {
	contents := "a\n"
	if a.delim.Text != "" {
		contents = m.pick("", "a\n", "\ta $x\n\t\t b\n", "E\\\nF\n", "\n\n", "$(b;\nc)$((1+\n2))\n", "`d` \\$ \\\\ 'e'\n", "${y-z}\\\n", "é\x00\n", "$(f <<F\ng\nF\n)\n")
	}
	a.target.Pos = len(m.s)
	m.s = append(m.s, contents...)
	if a.delim.Strip {
		contents = heredoc.Strip(contents)
		m.s = append(m.s, m.pick("", "\t", "\t\t")...)
	}
	a.target.Parts, _, _ = words.Here(contents)
	if a.delim.Quoted && contents != "" {
		a.target.Parts = quoted(contents)
	}
	m.s = append(m.s, a.delim.Text+"\n"...)
}

func (m *maker) newlines() {
	for m.chance(4) {
		m.newline()
	}
}

// word writes one of some words.
func (m *maker) word(l ...string) api.Word {
	s := m.pick(l...)
	pos := m.token(s)
	parts, _, _ := words.Parse(s)
	return api.Word{Pos: pos, Parts: parts}
}

// anyWord writes a word that can be anywhere but at the beginning of a command.
func (m *maker) anyWord() api.Word {
	if m.plain {
		return m.word("a", "b", "if", "done", "x=1")
	}
	return m.word("a", "if", "}", "esac", "in", "!", "x=1", "'b c'", "\"d $e\nf\"", "${g:-h i}", "$(j; k)", "`l | m`", "$((n+1))", "~/o", "a\\\np", "\\ ", "q#", "$", "$(cat <<E\nr\nE\n)", "é", "*[!s]")
}

// redirection writes a redirection; that of a here-document is completed later.
func (m *maker) redirection(r *api.Redir) {
	op := m.r.Intn(9)
	r.Op = []int{api.RIn, api.ROut, api.RAppend, api.RDupIn, api.RDupOut, api.RBoth, api.RClobber, api.RHere, api.RHere}[op]
	if m.plain && r.Op == api.RHere {
		r.Op = api.RIn
	}
	text := []string{"", "<", ">", ">>", "<&", ">&", "<>", ">|", "<<"}[r.Op]
	r.Fd = []int{0, 0, 1, 1, 0, 1, 0, 1, 0}[r.Op]
	strip := op == 8 && !m.plain
	if strip {
		text += "-"
	}
	if m.chance(3) {
		r.Fd = []int{0, 1, 2, 9, 10, api.MaxNumber}[m.r.Intn(6)]
		r.Pos = m.token(fmt.Sprint(r.Fd))
		m.s = append(m.s, text...)
		m.isWord = false
	} else {
		r.Pos = m.token(text)
	}
	if r.Op != api.RHere {
		r.Target = m.anyWord()
		return
	}
	delim := m.pick("E", "E", "'E'", "\\E", "E\"O\"F", "a$", "''")
	if delim == "''" && strip {
		delim = "E"
	}
	m.token(delim)
	parts, _, _ := words.Parse(delim)
	literal, _ := words.Literal(parts)
	m.awaited = append(m.awaited, awaited{&r.Target, api.Delim{Text: literal, Strip: strip, Quoted: words.Quoted(parts)}})
}

// redirections writes redirections behind a compound command.
func (m *maker) redirections() []api.Redir {
	if !m.chance(4) {
		return nil
	}
	l := make([]api.Redir, 1+m.r.Intn(2))
	for i := range l {
		m.redirection(&l[i])
	}
	return l
}

func (m *maker) simple() api.Node {
	n := api.Node{Kind: api.NSimple, Pos: -1}
	n.Redirs = make([]api.Redir, 0, 3)
	note := func(pos int) {
		if n.Pos < 0 {
			n.Pos = pos
		}
	}
	for n.Pos < 0 || m.chance(2) {
		switch k := m.r.Intn(4); {
		case k == 0 && len(n.Redirs) < cap(n.Redirs):
			n.Redirs = n.Redirs[:len(n.Redirs)+1]
			r := &n.Redirs[len(n.Redirs)-1]
			m.redirection(r)
			note(r.Pos)
		case k == 1 && len(n.Words) == 0:
			value := m.pick("", "1", "a=b", "'c d'", "~", "$e", "$(f)")
			if m.plain {
				value = "1"
			}
			pos := m.token("x_1=" + value)
			parts, _, _ := words.Parse(value)
			n.Assigns = append(n.Assigns, api.Assign{Pos: pos, Name: "x_1", Value: api.Word{Pos: pos + 4, Parts: parts}})
			note(pos)
		case len(n.Words) == 0:
			n.Words = append(n.Words, m.word("a", "b", "a", "b", "echo"))
			note(n.Words[0].Pos)
		default:
			n.Words = append(n.Words, m.anyWord())
		}
	}
	return n
}

// command writes a command of at most a depth.
func (m *maker) command(depth int) api.Node {
	if depth <= 1 || m.chance(2) {
		return m.simple()
	}
	if m.chance(6) {
		name := m.pick("f", "g1", "_")
		pos := m.token(name)
		m.token("(")
		m.token(")")
		m.newlines()
		return api.Node{Kind: api.NFunc, Pos: pos, Name: name, Kids: []api.Node{m.compound(depth - 1)}}
	}
	return m.compound(depth)
}

// begin returns a node that begins with a token.
func (m *maker) begin(kind int, s string) api.Node { return api.Node{Kind: kind, Pos: m.token(s)} }

func (m *maker) compound(depth int) api.Node {
	var n api.Node
	switch m.r.Intn(8) {
	case 0:
		n = m.begin(api.NGroup, "{")
		n.Kids = []api.Node{m.body(depth, "}")}
	case 1:
		n = m.begin(api.NSub, "(")
		n.Kids = []api.Node{m.body(depth, ")")}
	case 2, 3:
		n = m.conditional(depth, "if")
		m.token("fi")
	case 4:
		n = m.begin(api.NWhile, "while")
		n.Kids = []api.Node{m.body(depth, "do"), m.body(depth, "done")}
	case 5:
		n = m.begin(api.NUntil, "until")
		n.Kids = []api.Node{m.body(depth, "do"), m.body(depth, "done")}
	case 6:
		n = m.forEach(depth)
	case 7:
		n = m.selection(depth)
	}
	n.Redirs = m.redirections()
	return n
}

// conditional writes an if command without its end.
func (m *maker) conditional(depth int, first string) api.Node {
	n := m.begin(api.NIf, first)
	n.Kids = []api.Node{m.body(depth, "then"), m.body(depth, "")}
	switch m.r.Intn(3) {
	case 0:
		k := m.conditional(depth-1, "elif")
		n.Kids = append(n.Kids, api.Node{Kind: api.NList, Kids: []api.Node{k}})
	case 1:
		m.token("else")
		n.Kids = append(n.Kids, m.body(depth, ""))
	}
	return n
}

func (m *maker) forEach(depth int) api.Node {
	n := m.begin(api.NFor, "for")
	n.Name = m.pick("x", "if", "in", "do")
	m.token(n.Name)
	n.All = m.chance(2)
	switch {
	case !n.All:
		m.newlines()
		m.token("in")
		for m.chance(2) {
			n.Words = append(n.Words, m.anyWord())
		}
		if m.chance(2) {
			m.newline()
		} else {
			m.token(";")
		}
	case m.chance(2):
		m.token(";")
	}
	m.newlines()
	m.token("do")
	n.Kids = []api.Node{m.body(depth, "done")}
	return n
}

func (m *maker) selection(depth int) api.Node {
	n := m.begin(api.NCase, "case")
	n.Words = []api.Word{m.anyWord()}
	m.newlines()
	m.token("in")
	m.newlines()
	isOver := false
	for !isOver && m.chance(2) {
		var item api.Item
		if m.chance(2) {
			m.token("(")
			item.Patterns = append(item.Patterns, m.anyWord())
		} else {
			item.Patterns = append(item.Patterns, m.word("a", "b", "if"))
		}
		for m.chance(3) {
			m.token("|")
			item.Patterns = append(item.Patterns, m.anyWord())
		}
		m.token(")")
		m.newlines()
		isOver = m.chance(3)
		if m.chance(2) {
			item.Body = []api.Node{m.body(depth, "")}
		}
		if !isOver {
			m.token(";;")
			m.newlines()
		}
		n.Items = append(n.Items, item)
	}
	m.token("esac")
	return n
}

// item writes an and-or list, which is put in the background at times, and the separator behind it.
func (m *maker) item(depth int, separator func()) api.Node {
	n := m.andOr(depth)
	if m.chance(5) {
		m.token("&")
		return api.Node{Kind: api.NBack, Pos: n.Pos, Kids: []api.Node{n}}
	}
	separator()
	return n
}

// body writes a body, and what closes it if that is not empty. The position of the list is not made.
func (m *maker) body(depth int, closing string) api.Node {
	m.newlines()
	n := api.Node{Kind: api.NList}
	for len(n.Kids) == 0 || m.chance(3) {
		n.Kids = append(n.Kids, m.item(depth-1, func() {
			if m.chance(2) {
				m.newline()
			} else {
				m.token(";")
			}
		}))
		m.newlines()
	}
	if closing != "" {
		m.token(closing)
	}
	return n
}

func (m *maker) andOr(depth int) api.Node {
	n := m.pipeline(depth)
	for m.chance(4) {
		kind := api.NAnd + m.r.Intn(2)
		m.token([]string{"&&", "||"}[kind-api.NAnd])
		m.newlines()
		n = api.Node{Kind: kind, Pos: n.Pos, Kids: []api.Node{n, m.pipeline(depth)}}
	}
	return n
}

func (m *maker) pipeline(depth int) api.Node {
	pos := -1
	if m.chance(6) {
		pos = m.token("!")
	}
	n := m.command(depth)
	if m.chance(5) {
		n = api.Node{Kind: api.NPipe, Pos: n.Pos, Kids: []api.Node{n}}
		for len(n.Kids) < 2 || m.chance(3) {
			m.token("|")
			m.newlines()
			n.Kids = append(n.Kids, m.command(depth))
		}
	}
	if pos >= 0 {
		return api.Node{Kind: api.NNot, Pos: pos, Kids: []api.Node{n}}
	}
	return n
}

// line writes a line.
func (m *maker) line(depth int) []api.Node {
	var l []api.Node
	for m.chance(2) {
		l = append(l, m.item(depth, func() { m.token(";") }))
	}
	m.newline()
	return l
}

// program writes some lines.
func (m *maker) program(depth int) []api.Node {
	var l []api.Node
	for range 1 + m.r.Intn(3) {
		l = append(l, m.line(depth)...)
	}
	return l
}

// full returns all fields of nodes. The positions of lists are left out: those that begin with newlines are not clear.
func full(l []api.Node) string {
	var all []api.Node
	for _, n := range l {
		all = append(all, withoutLists(n))
	}
	return fmt.Sprintf("%+v", all)
}

func withoutLists(n api.Node) api.Node {
	if n.Kind == api.NList {
		n.Pos = 0
	}
	var kids []api.Node
	for _, k := range n.Kids {
		kids = append(kids, withoutLists(k))
	}
	n.Kids = kids
	var items []api.Item
	for _, item := range n.Items {
		var bodies []api.Node
		for _, k := range item.Body {
			bodies = append(bodies, withoutLists(k))
		}
		items = append(items, api.Item{Patterns: item.Patterns, Body: bodies})
	}
	n.Items = items
	return n
}

// TestMadeLines checks the nodes and the positions of random lines.
func TestMadeLines(t *testing.T) {
	r := rand.New(rand.NewSource(2))
	for range 3000 {
		m := maker{r: r}
		var all []api.Node
		for range 3 {
			at := len(m.s)
			want := m.line(1 + r.Intn(3))
			all = append(all, want...)
			if l, end, errno := parse.Line(string(m.s), at); full(l) != full(want) || end != len(m.s) || errno != api.OK {
				t.Fatalf("Line(%q, %d) is %s, %d, %d, want %s, %d", m.s, at, sketch(l), end, errno, sketch(want), len(m.s))
			}
		}
		checkProgram(t, string(m.s), all)
	}
}

// checkProgram checks Program, and P13.4.
func checkProgram(t *testing.T, s string, want []api.Node) {
	t.Helper()
	l, at, errno := parse.Program(s)
	if full(l) != full(want) || at != 0 || errno != api.OK {
		t.Fatalf("Program(%q) is %s, %d, %d, want %s", s, sketch(l), at, errno, sketch(want))
	}
	for _, n := range l {
		if errno := syntax.Valid(n); errno != api.OK {
			t.Fatalf("a node of %q is not valid: %d, %+v", s, errno, n)
		}
		for _, k := range syntax.Walk(n) {
			if k.Pos < 0 || k.Pos >= len(s) {
				t.Fatalf("a node of %q begins at %d", s, k.Pos)
			}
		}
	}
	checkComplete(t, s, api.OK)
}

// TestBeginnings checks that a program that ends before a token is not wrong: it is complete or incomplete.
func TestBeginnings(t *testing.T) {
	r := rand.New(rand.NewSource(3))
	for range 200 {
		m := maker{r: r}
		m.program(1 + r.Intn(3))
		for _, at := range m.starts {
			s := string(m.s[:at])
			_, offset, errno := parse.Program(s)
			if errno != api.OK && errno != api.ErrIncomplete {
				t.Fatalf("Program(%q) is %d, %d", s, offset, errno)
			}
			if errno == api.ErrIncomplete && offset != len(s) && !strings.Contains(s, "<<") {
				t.Fatalf("Program(%q) is %d, %d", s, offset, errno)
			}
			checkComplete(t, s, errno)
		}
	}
}
