package simple_test

import (
	"reflect"
	"slices"
	"strconv"
	"strings"
	"testing"

	"jobshell/api"
	"jobshell/chars"
	"jobshell/lexer"
	"jobshell/simple"
	"jobshell/small"
	"jobshell/words"
)

func text(s string) api.Part { return api.Part{Kind: api.PText, Text: s} }

func word(pos int, l ...api.Part) api.Word { return api.Word{Pos: pos, Parts: l} }

func TestAssignment(t *testing.T) {
	name := strings.Repeat("a", api.MaxName)
	for s, want := range map[string][2]string{"x=1": {"x", "1"}, "x=": {"x", ""}, "x=1=2 'y": {"x", "1=2 'y"}, "_1=\n": {"_1", "\n"}, name + "=b": {name, "b"}, "if=a": {"if", "a"}} {
		if n, v, ok := simple.Assignment(s); n != want[0] || v != want[1] || !ok {
			t.Errorf("Assignment(%q) is %q, %q, %v", s, n, v, ok)
		}
	}
	for _, s := range []string{"", "x", "=", "=1", "1=2", "1x=2", "x y=1", " x=1", "x =1", "x\\\n=1", "'x'=1", "x'='1", "$x=1", "x-y=1", "é=1", name + "a=b"} {
		if n, v, ok := simple.Assignment(s); n != "" || v != "" || ok {
			t.Errorf("Assignment(%q) is %q, %q, %v", s, n, v, ok)
		}
	}
}

func TestRedirect(t *testing.T) {
	for _, c := range []struct {
		s      string
		at     int
		redir  api.Redir
		delims []api.Delim
		end    int
	}{
		{"<f", 0, api.Redir{Fd: 0, Op: api.RIn, Target: word(1, text("f"))}, nil, 2},
		{">f", 0, api.Redir{Fd: 1, Op: api.ROut, Target: word(1, text("f"))}, nil, 2},
		{">>f", 0, api.Redir{Fd: 1, Op: api.RAppend, Target: word(2, text("f"))}, nil, 3},
		{"<&-", 0, api.Redir{Fd: 0, Op: api.RDupIn, Target: word(2, text("-"))}, nil, 3},
		{">&2", 0, api.Redir{Fd: 1, Op: api.RDupOut, Target: word(2, text("2"))}, nil, 3},
		{"<>f", 0, api.Redir{Fd: 0, Op: api.RBoth, Target: word(2, text("f"))}, nil, 3},
		{">|f", 0, api.Redir{Fd: 1, Op: api.RClobber, Target: word(2, text("f"))}, nil, 3},
		{"<<E", 0, api.Redir{Fd: 0, Op: api.RHere}, []api.Delim{{Text: "E"}}, 3},
		{"<<-E", 0, api.Redir{Fd: 0, Op: api.RHere}, []api.Delim{{Text: "E", Strip: true}}, 4},
		{"<< -E", 0, api.Redir{Fd: 0, Op: api.RHere}, []api.Delim{{Text: "-E"}}, 5},
		{"5<<'E F'", 0, api.Redir{Fd: 5, Op: api.RHere}, []api.Delim{{Text: "E F", Quoted: true}}, 8},
		{"<<-a\"b\"\\c", 0, api.Redir{Fd: 0, Op: api.RHere}, []api.Delim{{Text: "abc", Strip: true, Quoted: true}}, 9},
		{"<<\"\"", 0, api.Redir{Fd: 0, Op: api.RHere}, []api.Delim{{Quoted: true}}, 4},
		{"<<E\\\nF", 0, api.Redir{Fd: 0, Op: api.RHere}, []api.Delim{{Text: "EF"}}, 6},
		{"a 3<>f", 1, api.Redir{Pos: 2, Fd: 3, Op: api.RBoth, Target: word(5, text("f"))}, nil, 6},
		{"2147483647>f", 0, api.Redir{Fd: api.MaxNumber, Op: api.ROut, Target: word(11, text("f"))}, nil, 12},
		{" \\\n\t>\\\n if x", 0, api.Redir{Pos: 4, Fd: 1, Op: api.ROut, Target: word(8, text("if"))}, nil, 10},
		{">x=1;", -5, api.Redir{Fd: 1, Op: api.ROut, Target: word(1, text("x=1"))}, nil, 4},
		{"#c\n<f", 3, api.Redir{Pos: 3, Fd: 0, Op: api.RIn, Target: word(4, text("f"))}, nil, 5},
	} {
		r, d, end, ok, errno := simple.Redirect(c.s, c.at)
		if !reflect.DeepEqual(r, c.redir) || !slices.Equal(d, c.delims) || end != c.end || !ok || errno != api.OK {
			t.Errorf("Redirect(%q, %d) is %+v, %+v, %d, %v, %d", c.s, c.at, r, d, end, ok, errno)
		}
	}
	for _, s := range []string{"", " ", "a >f", "2 >f", "'2'>f", "\n>f", ";", "(", "|", "&", "&&", ")", "x=1", "2\\\n>f", "2a>f", "#>f"} {
		if r, d, end, ok, errno := simple.Redirect(s, 0); !reflect.DeepEqual(r, api.Redir{}) || len(d) != 0 || end != 0 || ok || errno != api.OK {
			t.Errorf("Redirect(%q) is %+v, %+v, %d, %v, %d", s, r, d, end, ok, errno)
		}
	}
}

func TestRedirectErrors(t *testing.T) {
	for _, c := range []struct {
		s     string
		at    int
		errno api.Errno
	}{
		{"'a", 0, api.ErrIncomplete}, {"a$(b", 1, api.ErrIncomplete},
		{"> 'a", 2, api.ErrIncomplete}, {"02> 'a", 4, api.ErrIncomplete}, {"2>\"${x-\"}", 7, api.ErrSyntax}, {"2> \"${x-a\"", 9, api.ErrSyntax}, {"02<<$((1) )", 8, api.ErrSyntax},
		{"02>", 0, api.ErrSyntax}, {"02>f", 0, api.ErrSyntax}, {" 2147483648<;", 1, api.ErrSyntax}, {"00<f", 0, api.ErrSyntax}, {"02>${x!}", 0, api.ErrSyntax},
		{">", 1, api.ErrIncomplete}, {">  ", 3, api.ErrIncomplete}, {"2>\\\n", 4, api.ErrIncomplete}, {"> #f", 4, api.ErrIncomplete}, {"<<", 2, api.ErrIncomplete},
		{">\n", 1, api.ErrSyntax}, {"> ;", 2, api.ErrSyntax}, {"> >f", 2, api.ErrSyntax}, {">2>f", 1, api.ErrSyntax}, {"><(", 1, api.ErrSyntax}, {">>>f", 2, api.ErrSyntax}, {"<<<f", 2, api.ErrSyntax},
		{">a${x!}", 5, api.ErrSyntax}, {"9<< ${x!}", 7, api.ErrSyntax}, {">$" + strings.Repeat("a", 33), 1, api.ErrTooLong},
		{"<<$x", 2, api.ErrSyntax}, {"2<<- a\"$x\"", 5, api.ErrSyntax}, {"<<~", 2, api.ErrSyntax}, {"<<a$(b)", 2, api.ErrSyntax}, {"<<`a`", 2, api.ErrSyntax}, {"<<$((1))", 2, api.ErrSyntax},
		{">" + strings.Repeat("a", api.MaxText), 0, api.ErrTooLong}, {">'" + strings.Repeat("a", api.MaxText), 0, api.ErrTooLong},
	} {
		r, d, at, ok, errno := simple.Redirect(c.s, 0)
		if !reflect.DeepEqual(r, api.Redir{}) || len(d) != 0 || at != c.at || ok || errno != c.errno {
			t.Errorf("Redirect(%.40q) is %+v, %+v, %d, %v, %d, want %d, %d", c.s, r, d, at, ok, errno, c.at, c.errno)
		}
	}
	s := ">" + strings.Repeat("a", api.MaxText-1)
	if _, _, at, ok, errno := simple.Redirect(s, 0); at != len(s) || !ok || errno != api.OK {
		t.Errorf("Redirect of a long text is %d, %v, %d", at, ok, errno)
	}
}

func TestCommand(t *testing.T) {
	param := api.Part{Kind: api.PParam, Text: "y"}
	for _, c := range []struct {
		s      string
		at     int
		want   api.Node
		delims []api.Delim
		end    int
	}{
		{"x=1 a <f b 2>&1; c", 0, api.Node{
			Assigns: []api.Assign{{Name: "x", Value: word(2, text("1"))}},
			Words:   []api.Word{word(4, text("a")), word(9, text("b"))},
			Redirs:  []api.Redir{{Pos: 6, Op: api.RIn, Target: word(7, text("f"))}, {Pos: 11, Fd: 2, Op: api.RDupOut, Target: word(14, text("1"))}},
		}, nil, 15},
		{"cat <<-'E' x", 0, api.Node{
			Words:  []api.Word{word(0, text("cat")), word(11, text("x"))},
			Redirs: []api.Redir{{Pos: 4, Op: api.RHere}},
		}, []api.Delim{{Text: "E", Strip: true, Quoted: true}}, 12},
		{"a; >f x=$y _=~ b c=d\n", 2, api.Node{
			Pos:     3,
			Redirs:  []api.Redir{{Pos: 3, Fd: 1, Op: api.ROut, Target: word(4, text("f"))}},
			Assigns: []api.Assign{{Pos: 6, Name: "x", Value: word(8, param)}, {Pos: 11, Name: "_", Value: word(13, api.Part{Kind: api.PTilde})}},
			Words:   []api.Word{word(15, text("b")), word(17, text("c=d"))},
		}, nil, 20},
		{"x=1 ", 0, api.Node{Assigns: []api.Assign{{Name: "x", Value: word(2, text("1"))}}}, nil, 3},
		{"if=a x= (", 0, api.Node{Assigns: []api.Assign{{Name: "if", Value: word(3, text("a"))}, {Pos: 5, Name: "x", Value: word(7)}}}, nil, 7},
		{"\t>f&", 0, api.Node{Pos: 1, Redirs: []api.Redir{{Pos: 1, Fd: 1, Op: api.ROut, Target: word(2, text("f"))}}}, nil, 3},
		{"<<a 3<<b <<-c)", 0, api.Node{Redirs: []api.Redir{{Pos: 0, Op: api.RHere}, {Pos: 4, Fd: 3, Op: api.RHere}, {Pos: 9, Op: api.RHere}}}, []api.Delim{{Text: "a"}, {Text: "b"}, {Text: "c", Strip: true}}, 13},
		{"a if x=1 }||b", 0, api.Node{Words: []api.Word{word(0, text("a")), word(2, text("if")), word(5, text("x=1")), word(9, text("}"))}}, nil, 10},
		{"'if'|", 0, api.Node{Words: []api.Word{word(0, api.Part{Kind: api.PQuoted, Text: "if"})}}, nil, 4},
		{"i\"f\" in", 0, api.Node{Words: []api.Word{word(0, text("i"), api.Part{Kind: api.PDouble, Parts: []api.Part{text("f")}}), word(5, text("in"))}}, nil, 7},
		{"\\x=1 y=2", 0, api.Node{Words: []api.Word{word(0, api.Part{Kind: api.PQuoted, Text: "x"}, text("=1")), word(5, text("y=2"))}}, nil, 8},
		{"1x=1 2 2>f #", -9, api.Node{Words: []api.Word{word(0, text("1x=1")), word(5, text("2"))}, Redirs: []api.Redir{{Pos: 7, Fd: 2, Op: api.ROut, Target: word(9, text("f"))}}}, nil, 10},
		{"a\\\nb \\\n c;;", 0, api.Node{Words: []api.Word{word(0, text("ab")), word(8, text("c"))}}, nil, 9},
		{"a;'", 0, api.Node{Words: []api.Word{word(0, text("a"))}}, nil, 1},
	} {
		c.want.Kind = api.NSimple
		n, d, end, errno := simple.Command(c.s, c.at)
		if !reflect.DeepEqual(n, c.want) || !slices.Equal(d, c.delims) || end != c.end || errno != api.OK {
			t.Errorf("Command(%q, %d) is %+v, %+v, %d, %d", c.s, c.at, n, d, end, errno)
		}
	}
}

func TestCommandErrors(t *testing.T) {
	for _, c := range []struct {
		s     string
		start int
		at    int
		errno api.Errno
	}{
		{"", 0, 0, api.ErrIncomplete}, {"  #a", 0, 4, api.ErrIncomplete}, {"a", 9, 1, api.ErrIncomplete}, {"\n", 0, 0, api.ErrSyntax}, {" ; a", 0, 1, api.ErrSyntax}, {"()", 0, 0, api.ErrSyntax}, {"a)", 1, 1, api.ErrSyntax}, {"&& a", 0, 0, api.ErrSyntax},
		{"cat <<$x", 0, 6, api.ErrSyntax}, {">f if", 0, 3, api.ErrSyntax}, {"x=1 in a", 0, 4, api.ErrSyntax}, {"!", 0, 0, api.ErrSyntax}, {"}", 0, 0, api.ErrSyntax}, {"w\\\nhile", 0, 0, api.ErrSyntax}, {"x\\\n=1", 0, 0, api.ErrSyntax}, {"y=1 x\\\n=$z", 0, 4, api.ErrSyntax}, {"x\\\n=1${!", 0, 5, api.ErrIncomplete},
		{"a >", 0, 3, api.ErrIncomplete}, {"02>x", 0, 0, api.ErrSyntax}, {"a b 02>'x", 0, 7, api.ErrIncomplete}, {"a >\n", 0, 3, api.ErrSyntax}, {"a 'b", 0, 2, api.ErrIncomplete}, {"if 'b", 0, 0, api.ErrSyntax}, {"a ${b!} > ;", 0, 5, api.ErrSyntax}, {"a > ; ${b!}", 0, 4, api.ErrSyntax},
		{"x=${y!}", 0, 5, api.ErrSyntax}, {"xyz=a${y!} if", 0, 8, api.ErrSyntax}, {"x=1 ${y!}", 0, 7, api.ErrSyntax}, {"x=$" + strings.Repeat("a", 33), 0, 2, api.ErrTooLong}, {"if${y!}", 0, 5, api.ErrSyntax},
		{strings.Repeat("a", api.MaxText+1), 0, 0, api.ErrTooLong}, {"a " + strings.Repeat("b", api.MaxText), 9, 0, api.ErrTooLong},
	} {
		if n, d, at, errno := simple.Command(c.s, c.start); !reflect.DeepEqual(n, api.Node{}) || len(d) != 0 || at != c.at || errno != c.errno {
			t.Errorf("Command(%.40q, %d) is %+v, %+v, %d, %d, want %d, %d", c.s, c.start, n, d, at, errno, c.at, c.errno)
		}
	}
}

// TestQuoted checks P12.5.
func TestQuoted(t *testing.T) {
	l := []string{"a", "", "b c", "x=1", "if", "'", "\n", "#", "2", ">", "a/b", "$x", "\\", "~", "!", "\x00\xff"}
	for i := range l {
		for j := range l {
			fields := append(slices.Clone(l[i:]), l[j])
			var quoted []string
			for _, s := range fields {
				quoted = append(quoted, chars.Quote(s))
			}
			n, d, at, errno := simple.Command(strings.Join(quoted, " "), 0)
			if lexer.Reserved(quoted[0]) {
				if at != 0 || errno != api.ErrSyntax {
					t.Errorf("Command(%q) is %+v, %d, %d", quoted, n, at, errno)
				}
				continue
			}
			var literals []string
			for _, w := range n.Words {
				s, _ := words.Literal(w.Parts)
				literals = append(literals, s)
			}
			if !slices.Equal(literals, fields) || len(n.Assigns)+len(n.Redirs)+len(d) != 0 || at != len(strings.Join(quoted, " ")) || errno != api.OK {
				t.Errorf("Command(%q) is %+v, %d, %d", quoted, n, at, errno)
			}
		}
	}
}

// model reads simple commands from a list of tokens.
type model struct {
	s      string
	tokens []api.Token
	last   api.Errno // of the last token
	node   api.Node
	delims []api.Delim
	end    int
}

// problem is an error that the model finds.
type problem struct {
	at    int
	errno api.Errno
}

// tokensFrom returns the tokens from an offset on, the last of which may have an error.
func tokensFrom(s string, at int) ([]api.Token, api.Errno) {
	var l []api.Token
	for {
		token, errno := lexer.Next(s, at)
		l = append(l, token)
		if errno != api.OK || token.Kind == api.TEnd {
			return l, errno
		}
		at = token.End
	}
}

// check panics with the error of a token.
func (m *model) check(i int) api.Token {
	if i == len(m.tokens)-1 && m.last != api.OK {
		panic(problem{m.tokens[i].Pos, m.last})
	}
	return m.tokens[i]
}

var operators = map[string][2]int{"<": {api.RIn, 0}, ">": {api.ROut, 1}, ">>": {api.RAppend, 1}, "<&": {api.RDupIn, 0}, ">&": {api.RDupOut, 1}, "<>": {api.RBoth, 0}, ">|": {api.RClobber, 1}, "<<": {api.RHere, 0}, "<<-": {api.RHere, 0}}

// parts returns the parts of the source between two offsets.
func (m *model) parts(from, to int) api.Word {
	l, at, errno := words.Parse(m.s[from:to])
	if errno != api.OK {
		panic(problem{from + at, errno})
	}
	return api.Word{Pos: from, Parts: l}
}

// redirection reads a redirection and returns how many tokens it has.
func (m *model) redirection() int {
	first := m.check(0)
	operator, isNumber := first, 0
	if first.Kind == api.TNumber {
		operator, isNumber = m.check(1), 1
	}
	o, ok := operators[operator.Text]
	if !ok {
		return 0
	}
	w := m.check(isNumber + 1)
	redir := api.Redir{Pos: first.Pos, Op: o[0], Fd: o[1]}
	if isNumber == 1 {
		number, err := strconv.Atoi(first.Text)
		if err != nil || number > api.MaxNumber || strconv.Itoa(number) != first.Text {
			panic(problem{first.Pos, api.ErrSyntax})
		}
		redir.Fd = number
	}
	if w.Kind != api.TWord {
		panic(problem{w.Pos, map[bool]api.Errno{true: api.ErrIncomplete, false: api.ErrSyntax}[w.Kind == api.TEnd]})
	}
	redir.Target = m.parts(w.Pos, w.End)
	if redir.Op == api.RHere {
		literal, ok := words.Literal(redir.Target.Parts)
		if !ok {
			panic(problem{w.Pos, api.ErrSyntax})
		}
		m.delims = append(m.delims, api.Delim{Text: literal, Strip: operator.Text == "<<-", Quoted: words.Quoted(redir.Target.Parts)})
		redir.Target = api.Word{}
	}
	m.node.Redirs = append(m.node.Redirs, redir)
	m.end = w.End
	return isNumber + 2
}

func (m *model) word(w api.Token) {
	name, _, found := strings.Cut(w.Text, "=")
	m.end = w.End
	if found && chars.Name(name) && len(m.node.Words) == 0 {
		m.node.Assigns = append(m.node.Assigns, api.Assign{Pos: w.Pos, Name: name, Value: m.parts(w.Pos+len(name)+1, w.End)})
		return
	}
	m.node.Words = append(m.node.Words, m.parts(w.Pos, w.End))
	first := m.node.Words[0].Parts
	if len(m.node.Words) > 1 || len(first) == 0 || first[0].Kind != api.PText {
		return
	}
	name, _, found = strings.Cut(first[0].Text, "=")
	if len(first) == 1 && lexer.Reserved(first[0].Text) || found && chars.Name(name) {
		panic(problem{w.Pos, api.ErrSyntax})
	}
}

func recovered(f func()) (p problem) {
	defer func() {
		if r := recover(); r != nil {
			p = r.(problem)
		}
	}()
	f()
	return problem{}
}

// command reads a simple command by definition.
func (m *model) command() {
	for {
		first := m.check(0)
		used := 1
		if first.Kind == api.TWord {
			m.word(first)
		} else {
			used = m.redirection()
		}
		if used == 0 {
			break
		}
		if len(m.node.Assigns)+len(m.node.Words)+len(m.node.Redirs) == 1 {
			m.node.Pos = first.Pos
		}
		m.tokens = m.tokens[used:]
	}
	if len(m.node.Assigns)+len(m.node.Words)+len(m.node.Redirs) == 0 {
		panic(problem{m.tokens[0].Pos, map[bool]api.Errno{true: api.ErrIncomplete, false: api.ErrSyntax}[m.tokens[0].Kind == api.TEnd]})
	}
}

// checkRedirect compares Redirect with the model.
func checkRedirect(t *testing.T, s string, at int) {
	t.Helper()
	m := model{s: s}
	m.tokens, m.last = tokensFrom(s, at)
	used := 0
	p := recovered(func() { used = m.redirection() })
	r, d, end, ok, errno := simple.Redirect(s, at)
	switch {
	case p != problem{}:
		if !reflect.DeepEqual(r, api.Redir{}) || len(d) != 0 || end != p.at || ok || errno != p.errno {
			t.Fatalf("Redirect(%q, %d) is %+v, %+v, %d, %v, %d, want %+v", s, at, r, d, end, ok, errno, p)
		}
	case used == 0:
		if !reflect.DeepEqual(r, api.Redir{}) || len(d) != 0 || end != 0 || ok || errno != api.OK {
			t.Fatalf("Redirect(%q, %d) is %+v, %+v, %d, %v, %d", s, at, r, d, end, ok, errno)
		}
	case !reflect.DeepEqual(r, m.node.Redirs[0]) || !slices.Equal(d, m.delims) || end != m.end || !ok || errno != api.OK:
		t.Fatalf("Redirect(%q, %d) is %+v, %+v, %d, %v, %d, want %+v", s, at, r, d, end, ok, errno, m)
	}
}

// checkCommand compares Command with the model, and checks P12.4.
func checkCommand(t *testing.T, s string, at int) {
	t.Helper()
	m := model{s: s, node: api.Node{Kind: api.NSimple}}
	m.tokens, m.last = tokensFrom(s, at)
	p := recovered(m.command)
	n, d, end, errno := simple.Command(s, at)
	if p != (problem{}) {
		m.node, m.delims, m.end = api.Node{}, nil, p.at
	}
	if !reflect.DeepEqual(n, m.node) || !slices.Equal(d, m.delims) || end != m.end || errno != p.errno {
		t.Fatalf("Command(%q, %d) is %+v, %+v, %d, %d, want %+v, %+v", s, at, n, d, end, errno, m, p)
	}
	for _, redir := range n.Redirs {
		if r, _, _, ok, errno := simple.Redirect(s, redir.Pos); !reflect.DeepEqual(r, redir) || !ok || errno != api.OK {
			t.Fatalf("Redirect(%q, %d) is %+v, %v, %d, want %+v", s, redir.Pos, r, ok, errno, redir)
		}
	}
}

func TestSmall(t *testing.T) {
	check := func(s string) {
		for at := range 3 {
			checkCommand(t, s, at-1)
			checkRedirect(t, s, at-1)
		}
	}
	small.Each([]string{"x", "=", " ", "2", ">", "<", "-", "&", "'", "$", "if", ";", "\n", "\\\n", "#", "a"}, 4, check)
	small.Each([]string{"x=1 ", "x\\\n=2 ", "a ", "if ", "<<", "2>", "03<", "<<-E ", ">f ", "'b' ", "${!} ", "\"$x", ";", "$(", "\n"}, 4, check)
}
