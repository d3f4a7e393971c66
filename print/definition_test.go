package print_test

import (
	"fmt"
	"math/rand"
	"strings"
	"testing"

	"jobshell/api"
	"jobshell/parse"
	"jobshell/print"
	"jobshell/small"
	"jobshell/syntax"
	"jobshell/words"
)

// The tests of this file compare the functions with the table of the document, for random nodes.

// table is the table of the document: ; is a NL, 0 to 2 are kids, N the name, W the words of NFor, V the word and I the branches of NCase, and E the else part.
var table = map[int]string{
	api.NNot: "! 0", api.NBack: "0 &", api.NGroup: "{;0}", api.NSub: "(;0)", api.NIf: "if 0then;1Efi", api.NWhile: "while 0do;1done", api.NUntil: "until 0do;1done",
	api.NFor: "for NW;do;0done", api.NCase: "case V in;Iesac", api.NFunc: "N() 0",
}

// Marks in the text of a model.
const (
	lineMark = "\x01" // a NL
	kidMark  = "\x02" // a NL after a kid of a list that is not an NBack
	hereMark = "\x03" // before the number of a here-document in contents, a byte
)

// model returns the source of a node, with marks.
func model(n api.Node) string {
	s := ""
	switch n.Kind {
	case api.NSimple:
		return strings.Join(elements(n), " ")
	case api.NList:
		for _, kid := range n.Kids {
			s += model(kid)
			if kid.Kind == api.NBack {
				s += lineMark
			} else {
				s += kidMark
			}
		}
		return s
	case api.NPipe, api.NAnd, api.NOr:
		var kids []string
		for _, kid := range n.Kids {
			kids = append(kids, model(kid))
		}
		return strings.Join(kids, map[int]string{api.NPipe: " | ", api.NAnd: " && ", api.NOr: " || "}[n.Kind])
	}
	for _, c := range table[n.Kind] {
		s += fill(n, c)
	}
	for _, r := range n.Redirs {
		s += " " + redirection(r)
	}
	return s
}

// fill returns what a byte of the table stands for.
func fill(n api.Node, c rune) string {
	switch {
	case c == ';':
		return lineMark
	case c >= '0' && c <= '2':
		return model(n.Kids[c-'0'])
	case c == 'N':
		return n.Name
	case c == 'W':
		return values(n)
	case c == 'V':
		return show(n.Words[0])
	case c == 'I':
		return branches(n)
	case c == 'E':
		return otherwise(n)
	}
	return string(c)
}

func elements(n api.Node) []string {
	var l []string
	for _, a := range n.Assigns {
		l = append(l, a.Name+"="+show(a.Value))
	}
	for _, w := range n.Words {
		l = append(l, show(w))
	}
	for _, r := range n.Redirs {
		l = append(l, redirection(r))
	}
	return l
}

func show(w api.Word) string {
	s, _ := words.Show(w.Parts)
	return s
}

func values(n api.Node) string {
	if n.All {
		return ""
	}
	s := " in"
	for _, w := range n.Words {
		s += " " + show(w)
	}
	return s
}

func branches(n api.Node) string {
	s := ""
	for _, item := range n.Items {
		var patterns []string
		for _, w := range item.Patterns {
			patterns = append(patterns, show(w))
		}
		s += "(" + strings.Join(patterns, " | ") + ")" + lineMark
		for _, l := range item.Body {
			s += model(l)
		}
		s += ";;" + lineMark
	}
	return s
}

// otherwise returns the else part.
func otherwise(n api.Node) string {
	if len(n.Kids) < 3 {
		return ""
	}
	kids := n.Kids[2].Kids
	if len(kids) > 1 || kids[0].Kind != api.NIf || len(kids[0].Redirs) > 0 {
		return "else" + lineMark + model(n.Kids[2])
	}
	return "el" + strings.TrimSuffix(model(kids[0]), "fi")
}

func redirection(r api.Redir) string {
	first := [...]string{"", "0<", "1>", "1>>", "0<&", "1>&", "0<>", "1>|", "0<<"}[r.Op]
	s := fmt.Sprint(r.Fd) + first[1:]
	if s == first {
		s = s[1:]
	}
	if r.Op == api.RHere {
		return s + hereMark + string(rune('A'+hereNumber(r)))
	}
	return s + show(r.Target)
}

// hereNumber returns which of the contents a here-document has.
func hereNumber(r api.Redir) int {
	for i, c := range contents {
		if words.Same(c.parts, r.Target.Parts) {
			return i
		}
	}
	return -1
}

// long returns the source of a model.
func long(s string) string {
	out, awaited := "", ""
	for i := 0; i < len(s); i++ {
		switch s[i : i+1] {
		case lineMark, kidMark:
			out += "\n" + awaited
			awaited = ""
		case hereMark:
			i++
			c := contents[s[i]-'A']
			out += c.source
			awaited += c.text + c.delimiter + "\n"
		default:
			out += s[i : i+1]
		}
	}
	if awaited != "" {
		out += "\n" + awaited
	}
	return out
}

// brief returns the short form of a model.
func brief(s string) string {
	out := ""
	for i := 0; i < len(s); i++ {
		switch b := s[i : i+1]; {
		case b == lineMark:
			out += " "
		case b == kidMark:
			out += "; "
		case b == hereMark:
			i++
			out += ".."
		case s[i] < 32 || s[i] > 126:
			out += "?"
		default:
			out += b
		}
	}
	out = strings.TrimSuffix(out, " ")
	if len(out) > 64 {
		out = out[:61] + "..."
	}
	return out
}

// generator makes random nodes that are valid.
type generator struct{ r *rand.Rand }

func (g generator) word() api.Word {
	l := []string{"a", "b", "if", "}", "x=1", "'c d'", "\"e $f\ng\"", "${h:-i}j", "$(k; l)", "$((m+1))", "~", "n'\n'", "é", "\\'", "${10}", "*", "2"}
	return word(l[g.r.Intn(len(l))])
}

func (g generator) words(most int) []api.Word {
	var l []api.Word
	for range g.r.Intn(most + 1) {
		l = append(l, g.word())
	}
	return l
}

func (g generator) redirs() []api.Redir {
	var l []api.Redir
	for g.r.Intn(4) == 0 {
		r := api.Redir{Fd: g.r.Intn(4), Op: 1 + g.r.Intn(8), Target: g.word()}
		if r.Op == api.RHere {
			r.Target = api.Word{Parts: contents[g.r.Intn(len(contents))].parts}
		}
		l = append(l, r)
	}
	return l
}

func (g generator) simple() api.Node {
	n := api.Node{Kind: api.NSimple, Redirs: g.redirs()}
	for g.r.Intn(4) == 0 {
		n.Assigns = append(n.Assigns, api.Assign{Name: "x", Value: g.word()})
	}
	if len(n.Redirs)+len(n.Assigns) == 0 || g.r.Intn(3) > 0 {
		n.Words = append([]api.Word{word([]string{"a", "'if'", "\"$x\"", "b", "1"}[g.r.Intn(5)])}, g.words(2)...)
	}
	return n
}

// list returns a list of at most a depth, at least 2.
func (g generator) list(depth int) api.Node {
	n := list(g.item(depth - 1))
	for g.r.Intn(3) == 0 {
		n.Kids = append(n.Kids, g.item(depth-1))
	}
	return n
}

// item returns an and-or list or an NBack.
func (g generator) item(depth int) api.Node {
	if depth > 1 && g.r.Intn(4) == 0 {
		return node(api.NBack, g.andOr(depth-1))
	}
	return g.andOr(depth)
}

func (g generator) andOr(depth int) api.Node {
	if depth > 1 && g.r.Intn(4) == 0 {
		return node(api.NAnd+g.r.Intn(2), g.andOr(depth-1), g.pipeline(depth-1))
	}
	return g.pipeline(depth)
}

func (g generator) pipeline(depth int) api.Node {
	if depth > 1 && g.r.Intn(5) == 0 {
		return node(api.NNot, g.pipe(depth-1))
	}
	return g.pipe(depth)
}

func (g generator) pipe(depth int) api.Node {
	if depth <= 1 || g.r.Intn(4) > 0 {
		return g.command(depth)
	}
	n := node(api.NPipe, g.command(depth-1), g.command(depth-1))
	for g.r.Intn(3) == 0 {
		n.Kids = append(n.Kids, g.command(depth-1))
	}
	return n
}

func (g generator) command(depth int) api.Node {
	switch {
	case depth <= 3 || g.r.Intn(2) == 0:
		return g.simple()
	case g.r.Intn(6) == 0:
		return api.Node{Kind: api.NFunc, Name: "f", Kids: []api.Node{g.compound(depth - 1)}}
	}
	return g.compound(depth)
}

// compound returns a compound command of at most a depth, at least 3.
func (g generator) compound(depth int) api.Node {
	n := node([]int{api.NGroup, api.NSub, api.NIf, api.NIf, api.NIf, api.NWhile, api.NUntil, api.NFor, api.NCase, api.NCase}[g.r.Intn(10)])
	n.Redirs = g.redirs()
	kids := 1
	switch n.Kind {
	case api.NIf:
		kids = 2 + g.r.Intn(2)
	case api.NWhile, api.NUntil:
		kids = 2
	case api.NFor:
		n.Name, n.All = []string{"x", "do"}[g.r.Intn(2)], g.r.Intn(2) == 0
		if !n.All {
			n.Words = g.words(3)
		}
	case api.NCase:
		kids = 0
		n.Words = []api.Word{g.word()}
		for g.r.Intn(2) == 0 {
			item := api.Item{Patterns: append(g.words(2), g.word())}
			if g.r.Intn(2) == 0 {
				item.Body = []api.Node{g.list(depth - 1)}
			}
			n.Items = append(n.Items, item)
		}
	}
	for range kids {
		n.Kids = append(n.Kids, g.list(depth-1))
	}
	return n
}

// TestTable compares Node, Program and Brief with the table, and checks P14.5 and P14.6.
func TestTable(t *testing.T) {
	g := generator{rand.New(rand.NewSource(1))}
	kinds := map[int]int{}
	for range 10000 {
		n := g.item(1 + g.r.Intn(9))
		if errno := syntax.Valid(n); errno != api.OK {
			t.Fatalf("Valid(%+v) is %d", n, errno)
		}
		m := model(n)
		s, errno := print.Node(n)
		if len(long(m)) > api.MaxText {
			continue
		}
		if s != long(m) || errno != api.OK {
			t.Fatalf("Node is %q, %d, want %q", s, errno, long(m))
		}
		if p, errno := print.Program([]api.Node{n, n}); len(p) <= api.MaxText && (p != long(m+lineMark+m+lineMark) || errno != api.OK) {
			t.Fatalf("Program is %q, %d, want %q", p, errno, long(m+lineMark+m+lineMark))
		}
		checkBrief(t, n, brief(m))
		checkParsed(t, s, n)
		for _, k := range syntax.Walk(n) {
			kinds[k.Kind]++
			if k.Kind == api.NList {
				checkBrief(t, k, brief(model(k)))
				if s, errno := print.Node(k); s != long(model(k)) || errno != api.OK {
					t.Fatalf("Node is %q, %d, want %q", s, errno, long(model(k)))
				}
			}
		}
	}
	for kind := api.NSimple; kind <= api.NFunc; kind++ {
		if kinds[kind] < 500 {
			t.Errorf("there are %d nodes of the kind %d only", kinds[kind], kind)
		}
	}
}

// checkBrief checks Brief, and that a short form in which nothing is left out or replaced is a source of the same node. (The words of a for command are not separated from do there.)
func checkBrief(t *testing.T, n api.Node, want string) {
	t.Helper()
	s, errno := print.Brief(n)
	if s != want || errno != api.OK {
		t.Fatalf("Brief is %q, %d, want %q", s, errno, want)
	}
	if len(s) > 64 || strings.Trim(s, " !\"#$%&'()*+,-./0123456789:;<=>?@ABCDEFGHIJKLMNOPQRSTUVWXYZ[\\]^_`abcdefghijklmnopqrstuvwxyz{|}~") != "" {
		t.Fatalf("Brief is %q", s)
	}
	if n.Kind != api.NList && !strings.Contains(s, "?") && !strings.Contains(s, "..") && !strings.Contains(s, "for ") {
		checkParsed(t, s, n)
	}
}

// checkParsed checks that a source is parsed as a node.
func checkParsed(t *testing.T, s string, n api.Node) {
	t.Helper()
	if l, at, errno := parse.Program(s); len(l) != 1 || !syntax.Same(l[0], n) || at != 0 || errno != api.OK {
		t.Fatalf("Program(%q) is %+v, %d, %d, want %+v", s, l, at, errno, n)
	}
}

// checkRound checks P14.4 for a source, and reports whether it is a program.
func checkRound(t *testing.T, s string) bool {
	t.Helper()
	l, _, errno := parse.Program(s)
	if errno != api.OK {
		return false
	}
	printed, errno := print.Program(l)
	if errno == api.ErrTooLong {
		return true
	}
	if errno != api.OK {
		t.Fatalf("Program of %q is %d", s, errno)
	}
	again := program(t, printed)
	if len(again) != len(l) {
		t.Fatalf("%q has %d nodes, and %q %d", s, len(l), printed, len(again))
	}
	for i := range l {
		if !syntax.Same(again[i], l[i]) {
			t.Fatalf("%q and %q are %+v and %+v", s, printed, l[i], again[i])
		}
	}
	if twice, errno := print.Program(again); twice != printed || errno != api.OK {
		t.Fatalf("%q is printed as %q, and that as %q, %d", s, printed, twice, errno)
	}
	return true
}

func TestRoundTrip(t *testing.T) {
	rounds := 0
	check := func(s string) {
		if checkRound(t, s) {
			rounds++
		}
	}
	small.Each([]string{"a", " ", ";", "\n", "'", "\"", "`", "\\", "#", "$", "(", ")", "x=", "2>", "&", "|"}, 4, check)
	small.Each([]string{"a ", "{ ", "} ", "( ", ") ", "if ", "then ", "else ", "fi ", "for x ", "case a in ", "in ", "do ", "done ", "esac ", ";; ", "; ", "\n"}, 4, check)
	if rounds < 5000 {
		t.Errorf("only %d sources are programs", rounds)
	}
	rounds = 0
	small.Each([]string{"a", "$x", "1", "\\", "\n", "`", "$", "'", "}", "E", "\t", "EOF", "${y-", "\"", "$(("}, 3, func(s string) {
		check("b <<E\n" + s + "\nE\n")
		check("b <<-E\n" + s + "\nE\n")
		check("b <<'E'\n" + s + "\nE\n")
		check("b \"" + s + "\" <<E c\n\n" + s + "E\nE\n")
	})
	if rounds < 5000 {
		t.Errorf("only %d sources with here-documents are programs", rounds)
	}
}

// TestLongRoundTrip checks sources at the limit of the texts.
func TestLongRoundTrip(t *testing.T) {
	for _, s := range []string{strings.Repeat("a\n", api.MaxNodes), strings.Repeat("(a)\n", api.MaxNodes/3), "a " + strings.Repeat("b", api.MaxText-2), "a" + strings.Repeat("&&a", 31), "a <<E\n" + strings.Repeat("$", api.MaxText-8) + "\nE", "a <<E\n" + strings.Repeat("$", api.MaxText/2-8) + "\nE"} {
		if !checkRound(t, s) {
			t.Errorf("%.40q is no program", s)
		}
	}
}
