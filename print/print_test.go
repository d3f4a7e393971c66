package print_test

import (
	"slices"
	"strings"
	"testing"

	"jobshell/api"
	"jobshell/parse"
	"jobshell/print"
	"jobshell/syntax"
	"jobshell/words"
)

// program returns the nodes of a program that has no error.
func program(t *testing.T, s string) []api.Node {
	t.Helper()
	l, at, errno := parse.Program(s)
	if at != 0 || errno != api.OK {
		t.Fatalf("Program(%q) is %d, %d", s, at, errno)
	}
	return l
}

// one returns the only node of a program.
func one(t *testing.T, s string) api.Node {
	t.Helper()
	l := program(t, s)
	if len(l) != 1 {
		t.Fatalf("%q has %d nodes", s, len(l))
	}
	return l[0]
}

func word(s string) api.Word {
	l, _, _ := words.Parse(s)
	return api.Word{Parts: l}
}

func simple(l ...string) api.Node {
	n := api.Node{Kind: api.NSimple}
	for _, s := range l {
		n.Words = append(n.Words, word(s))
	}
	return n
}

func node(kind int, kids ...api.Node) api.Node { return api.Node{Kind: kind, Kids: kids} }

func list(kids ...api.Node) api.Node { return node(api.NList, kids...) }

func TestNode(t *testing.T) {
	for s, want := range map[string]string{
		"a  b\tc": "a b c", "x=1  y= a": "x=1 y= a", ">f a <g b x=1": "a b x=1 >f <g", "x=~ y=$z": "x=~ y=$z", ">f x=1": "x=1 >f",
		"a|b | c": "a | b | c", "! a": "! a", "! a|b": "! a | b", "a&&b||c": "a && b || c", "a ||! b && c|d": "a || ! b && c | d", "a&": "a &", "a&&b&": "a && b &",
		"{ a;b& c; }": "{\na\nb &\nc\n}", "(a)": "(\na\n)", "( (a) )": "(\n(\na\n)\n)", "(a)|{ b; }": "(\na\n) | {\nb\n}",
		"if a;then b 2>f&fi": "if a\nthen\nb 2>f &\nfi", "if a;then b;else c;fi": "if a\nthen\nb\nelse\nc\nfi", "if a;b;then c;d;fi": "if a\nb\nthen\nc\nd\nfi", "if a&then b;fi": "if a &\nthen\nb\nfi",
		"if a;then b;elif c;then d;fi": "if a\nthen\nb\nelif c\nthen\nd\nfi", "if a;then b;elif c;then d;elif e;then f;else g;fi": "if a\nthen\nb\nelif c\nthen\nd\nelif e\nthen\nf\nelse\ng\nfi", "if a;then b;else if c;then d;fi fi": "if a\nthen\nb\nelif c\nthen\nd\nfi",
		"if a;then b;else if c;then d;fi>f;fi": "if a\nthen\nb\nelse\nif c\nthen\nd\nfi >f\nfi", "if a;then b;else if c;then d;fi;e;fi": "if a\nthen\nb\nelse\nif c\nthen\nd\nfi\ne\nfi", "if a;then b;else if c;then d;fi& fi": "if a\nthen\nb\nelse\nif c\nthen\nd\nfi &\nfi", "if a;then b;else ! if c;then d;fi;fi": "if a\nthen\nb\nelse\n! if c\nthen\nd\nfi\nfi", "if a;then b;else c;if d;then e;fi;fi": "if a\nthen\nb\nelse\nc\nif d\nthen\ne\nfi\nfi", "if a;then if b;then c;fi;fi": "if a\nthen\nif b\nthen\nc\nfi\nfi", "if a;then b;elif c;then d;fi>f": "if a\nthen\nb\nelif c\nthen\nd\nfi >f",
		"while a;do b;done": "while a\ndo\nb\ndone", "until a&b;do c& done": "until a &\nb\ndo\nc &\ndone",
		"for x do a;done": "for x\ndo\na\ndone", "for x in;do a;done": "for x in\ndo\na\ndone", "for x in a $b 'c d';do e;done": "for x in a $b 'c d'\ndo\ne\ndone", "for if in do;do a;done": "for if in do\ndo\na\ndone",
		"case $x in esac": "case $x in\nesac", "case a in b)esac": "case a in\n(b)\n;;\nesac", "case a in b|'c') d;e;;(f)esac": "case a in\n(b | 'c')\nd\ne\n;;\n(f)\n;;\nesac", "case a in (esac) b& esac": "case a in\n(esac)\nb &\n;;\nesac",
		"f()(a)": "f() (\na\n)", "f()\n{ a;}>g": "f() {\na\n} >g", "f()for x do a;done": "f() for x\ndo\na\ndone",
		"{ a;}>f 2>&1 <g": "{\na\n} >f 2>&1 <g", "(a)>f": "(\na\n) >f", "while a;do b;done>f": "while a\ndo\nb\ndone >f", "until a;do b;done>f": "until a\ndo\nb\ndone >f", "for x do a;done>f": "for x\ndo\na\ndone >f", "case a in esac>f": "case a in\nesac >f",
		"a 0<f 1>f 1>>f 0<&f 1>&f 0<>f 1>|f": "a <f >f >>f <&f >&f <>f >|f", "a 1<f 0>f 2>>f 3<&f 0>&f 1<>f 9>|f": "a 1<f 0>f 2>>f 3<&f 0>&f 1<>f 9>|f", "a 2147483647>f 10< g": "a 2147483647>f 10<g", "2 >f": "2 >f",
		"a 'b'\"c\"\\d `e` ${10} ${x:-y z} $((1+ 2)) ~/f": "a 'b'\"c\"'d' $(e) ${10} ${x:-y z} $((1+ 2)) ~/f", "a 'b\nc'": "a 'b\nc'", "a\\\nb": "ab",
	} {
		if got, errno := print.Node(one(t, s)); got != want || errno != api.OK {
			t.Errorf("Node of %q is %q, %d, want %q", s, got, errno, want)
		}
	}
	for _, c := range []struct {
		n    api.Node
		want string
	}{
		{list(simple("a")), "a\n"}, {list(simple("a"), node(api.NBack, simple("b")), simple("c")), "a\nb &\nc\n"},
		{api.Node{Kind: api.NFunc, Name: "if", Kids: []api.Node{node(api.NSub, list(simple("a")))}}, "if() (\na\n)"},
		{node(api.NNot, node(api.NPipe, simple("a"), api.Node{Kind: api.NFunc, Name: "f", Kids: []api.Node{node(api.NGroup, list(simple("b")))}})), "! a | f() {\nb\n}"},
	} {
		if got, errno := print.Node(c.n); got != c.want || errno != api.OK {
			t.Errorf("Node(%+v) is %q, %d, want %q", c.n, got, errno, c.want)
		}
	}
}

// contents are parts of here-documents, how they are written, and their delimiters.
var contents = []struct {
	parts     []api.Part
	text      string
	delimiter string
	source    string // of the delimiter
}{
	{nil, "", "EOF", "EOF"},
	{[]api.Part{{Kind: api.PText, Text: "a\n"}}, "a\n", "EOF", "EOF"},
	{[]api.Part{{Kind: api.PText, Text: "\n\ta\n\n"}}, "\n\ta\n\n", "EOF", "EOF"},
	{[]api.Part{{Kind: api.PText, Text: "a"}}, "a\\\n", "EOF", "EOF"},
	{[]api.Part{{Kind: api.PText, Text: "a\\"}}, "a\\\\\\\n", "EOF", "EOF"},
	{[]api.Part{{Kind: api.PText, Text: "a\\\n"}}, "a\\\\\n", "EOF", "EOF"},
	{[]api.Part{{Kind: api.PText, Text: "$x `b` '\"} c\n"}}, "\\$x \\`b\\` '\"} c\n", "EOF", "EOF"},
	{[]api.Part{{Kind: api.PParam, Text: "x"}, {Kind: api.PText, Text: "1\n"}}, "${x}1\n", "EOF", "EOF"},
	{[]api.Part{{Kind: api.PText, Text: "1"}, {Kind: api.PParam, Text: "x"}}, "1$x\\\n", "EOF", "EOF"},
	{[]api.Part{{Kind: api.PParam, Text: "x", Op: api.OpDefault, Parts: []api.Part{{Kind: api.PText, Text: "}\n"}}}}, "${x-\\}\n}\\\n", "EOF", "EOF"},
	{[]api.Part{{Kind: api.PCommand, Text: "b <<EOF\nc\nEOF\n"}}, "$(b <<EOF\nc\nEOF\n)\\\n", "EOF1", "EOF1"},
	{[]api.Part{{Kind: api.PArith, Parts: []api.Part{{Kind: api.PText, Text: "1\nEOF\n"}}}, {Kind: api.PText, Text: "\n"}}, "$((1\nEOF\n))\n", "EOF1", "EOF1"},
	{[]api.Part{{Kind: api.PText, Text: "EOF\nEOF1\nEOF2 \n"}}, "EOF\nEOF1\nEOF2 \n", "EOF2", "EOF2"},
	{[]api.Part{{Kind: api.PText, Text: "EOF"}}, "EOF\\\n", "EOF", "EOF"},
	{[]api.Part{{Kind: api.PQuoted, Text: "a\n"}}, "a\n", "EOF", "'EOF'"},
	{[]api.Part{{Kind: api.PQuoted, Text: "\n"}}, "\n", "EOF", "'EOF'"},
	{[]api.Part{{Kind: api.PQuoted, Text: "$(\n'\\\nEOF\n"}}, "$(\n'\\\nEOF\n", "EOF1", "'EOF1'"},
}

func TestContents(t *testing.T) {
	for _, c := range contents {
		for _, fd := range []string{"", "1", "3"} {
			n := simple("a")
			n.Redirs = []api.Redir{{Fd: len(fd), Op: api.RHere, Target: api.Word{Parts: c.parts}}}
			if fd == "3" {
				n.Redirs[0].Fd = 3
			}
			want := "a " + fd + "<<" + c.source + "\n" + c.text + c.delimiter + "\n"
			if got, errno := print.Node(n); got != want || errno != api.OK {
				t.Errorf("Node(%+v) is %q, %d, want %q", n, got, errno, want)
			}
			if l := program(t, want); len(l) != 1 || !syntax.Same(l[0], n) {
				t.Errorf("%q is parsed as %+v, want %+v", want, l, n)
			}
		}
	}
}

func TestHereDocuments(t *testing.T) {
	for s, want := range map[string]string{
		"cat <<'x' | b\na\nx\n": "cat <<'EOF' | b\na\nEOF\n", "cat <<-x\n\ta\n\tx\n": "cat <<EOF\na\nEOF\n", "cat <<'x'\nx\n": "cat <<EOF\nEOF\n", "a <<x >f 3<<y b\n1\nx\n2\ny\n": "a b <<EOF >f 3<<EOF\n1\nEOF\n2\nEOF\n",
		"a <<x && b <<y &\nx\n2\ny\n": "a <<EOF && b <<EOF &\nEOF\n2\nEOF\n", "a <<x 'b\nc'\nx\n": "a 'b\nc' <<EOF\nEOF\n", "a $(b <<x\nx\n) <<x\nx\n": "a $(b <<x\nx\n) <<EOF\nEOF\n",
		"{ a <<x; b; } <<y\n1\nx\n2\ny\n": "{\na <<EOF\n1\nEOF\nb\n} <<EOF\n2\nEOF\n", "(a <<x)\nx\n": "(\na <<EOF\nEOF\n)\n", "a <<x | (b)\n1\nx\n": "a <<EOF | (\n1\nEOF\nb\n)\n", "! a <<x | { b <<y; }\n1\nx\n2\ny\n": "! a <<EOF | {\n1\nEOF\nb <<EOF\n2\nEOF\n}\n",
		"if a <<x; then b; fi\n1\nx\n": "if a <<EOF\n1\nEOF\nthen\nb\nfi\n", "a <<x | if b; then c; elif d <<y; then e; fi\n1\nx\n2\ny\n": "a <<EOF | if b\n1\nEOF\nthen\nc\nelif d <<EOF\n2\nEOF\nthen\ne\nfi\n", "a <<x | while b; do c; done <<y\n1\nx\n2\ny\n": "a <<EOF | while b\n1\nEOF\ndo\nc\ndone <<EOF\n2\nEOF\n",
		"a <<x | for y in b; do c; done\n1\nx\n": "a <<EOF | for y in b\n1\nEOF\ndo\nc\ndone\n", "a <<x | case b in c) d <<y;; esac <<z\n1\nx\n2\ny\n3\nz\n": "a <<EOF | case b in\n1\nEOF\n(c)\nd <<EOF\n2\nEOF\n;;\nesac <<EOF\n3\nEOF\n", "f() (a) <<x\n1\nx\n": "f() (\na\n) <<EOF\n1\nEOF\n", "a <<x; b\n1\nx\n": "a <<EOF\n1\nEOF\nb\n",
	} {
		if got, errno := print.Program(program(t, s)); got != want || errno != api.OK {
			t.Errorf("Program of %q is %q, %d, want %q", s, got, errno, want)
		}
		if l := program(t, s); len(l) == 1 {
			// Node writes a newline at the end only if contents follow it.
			if !strings.HasSuffix(want, "EOF\n") {
				want = strings.TrimSuffix(want, "\n")
			}
			if got, errno := print.Node(l[0]); got != want || errno != api.OK {
				t.Errorf("Node of %q is %q, %d, want %q", s, got, errno, want)
			}
		}
	}
}

func TestProgram(t *testing.T) {
	if s, errno := print.Program(nil); s != "" || errno != api.OK {
		t.Errorf("Program of nothing is %q, %d", s, errno)
	}
	for s, want := range map[string]string{"": "", "a": "a\n", "a;b&c": "a\nb &\nc\n", "a && b\n\n# c\n(d)": "a && b\n(\nd\n)\n", "f() { a; }; f": "f() {\na\n}\nf\n"} {
		if got, errno := print.Program(program(t, s)); got != want || errno != api.OK {
			t.Errorf("Program of %q is %q, %d, want %q", s, got, errno, want)
		}
	}
}

func TestBrief(t *testing.T) {
	x := strings.Repeat("x", 59)
	for s, want := range map[string]string{
		"a  b >f": "a b >f", "x=1 a": "x=1 a", "a|b": "a | b", "! a": "! a", "a&&b||c": "a && b || c", "a &": "a &", "{ a;b& c; }": "{ a; b & c; }", "(a)": "( a; )", "(a &)>f": "( a & ) >f",
		"while a; do b & c; done >f": "while a; do b & c; done >f", "until a; do b; done": "until a; do b; done", "case $x in a|b) c;; esac": "case $x in (a | b) c; ;; esac", "case a in esac": "case a in esac", "case a in b) ;; esac": "case a in (b) ;; esac", "for x do a; done": "for x do a; done", "for x in; do a; done": "for x in do a; done", "for x in a b; do c & done": "for x in a b do c & done",
		"if a; then b; fi": "if a; then b; fi", "if a; then b; elif c; then d; fi": "if a; then b; elif c; then d; fi", "if a; then b& else c; fi": "if a; then b & else c; fi", "f() { a; }": "f() { a; }",
		"cat <<E 3<<-F | b\nE\nF\n": "cat <<.. 3<<.. | b", "cat <<'E' >f\na\nE\n": "cat <<.. >f", "{ a <<E; } 1<<E\na\nE\nb\nE\n": "{ a <<..; } 1<<..",
		"echo 'a\nb\té'": "echo 'a?b???'", "a '\x01\x1f ~\x7f\xff'": "a '?? ~??'", "a $(b\nc)": "a $(b?c)",
		"echo " + x: "echo " + x, "echo " + x + "x": "echo " + x[:56] + "...", "echo " + x[:55] + " yyy z": "echo " + x[:55] + " ...", "{ echo " + x[:55] + "; }": "{ echo " + x[:54] + "...", "{ echo " + x[:54] + "; }": "{ echo " + x[:54] + "; }", "a '" + strings.Repeat("é", 40) + "'": "a '" + strings.Repeat("?", 58) + "...",
	} {
		if got, errno := print.Brief(one(t, s)); got != want || errno != api.OK {
			t.Errorf("Brief of %q is %q, %d, want %q", s, got, errno, want)
		}
	}
	for _, c := range []struct {
		n    api.Node
		want string
	}{{list(simple("a")), "a;"}, {list(simple("a"), simple("b")), "a; b;"}, {list(simple("a"), node(api.NBack, simple("b"))), "a; b &"}, {list(simple(x + "xxxx")), x + "xxxx;"}, {list(simple(x + "xxxxx")), x + "xx..."}} {
		if got, errno := print.Brief(c.n); got != c.want || errno != api.OK {
			t.Errorf("Brief(%+v) is %q, %d, want %q", c.n, got, errno, c.want)
		}
	}
}

// nested returns groups of a depth of 2 for each, around a simple command.
func nested(groups int) api.Node {
	n := simple("a")
	for range groups {
		n = node(api.NGroup, list(n))
	}
	return n
}

func TestErrors(t *testing.T) {
	many := func(size int) api.Node {
		n := node(api.NPipe)
		for range size - 1 {
			n.Kids = append(n.Kids, simple("a"))
		}
		return n
	}
	for _, c := range []struct {
		n    api.Node
		want api.Errno
	}{
		{api.Node{}, api.ErrInvalid}, {api.Node{Kind: api.NSimple}, api.ErrInvalid}, {api.Node{Kind: 16}, api.ErrInvalid}, {simple("if"), api.ErrInvalid}, {simple("x=1"), api.ErrInvalid}, {simple("a", ""), api.ErrInvalid}, {simple("a", "'b"), api.ErrInvalid}, {node(api.NGroup, simple("a")), api.ErrInvalid}, {node(api.NList), api.ErrInvalid}, {node(api.NGroup, list()), api.ErrInvalid}, {node(api.NPipe, simple("a")), api.ErrInvalid}, {list(list(simple("a"))), api.ErrInvalid},
		{api.Node{Kind: api.NSimple, Redirs: []api.Redir{{Op: api.RHere, Target: api.Word{Parts: []api.Part{{Kind: api.PQuoted, Text: "a"}}}}}}, api.ErrInvalid}, {api.Node{Kind: api.NSimple, Redirs: []api.Redir{{Op: 9, Target: word("a")}}}, api.ErrInvalid},
		{nested(15), api.OK}, {nested(16), api.ErrDepth}, {many(api.MaxNodes), api.OK}, {many(api.MaxNodes + 1), api.ErrLimit},
	} {
		if s, errno := print.Node(c.n); errno != c.want || errno != api.OK && s != "" {
			t.Errorf("Node(%.60q) is %.60q, %d, want %d", s, s, errno, c.want)
		}
		if s, errno := print.Brief(c.n); errno != c.want || errno != api.OK && s != "" {
			t.Errorf("Brief(%.60q) is %.60q, %d, want %d", s, s, errno, c.want)
		}
		for _, l := range [][]api.Node{{c.n}, {simple("a"), c.n}, {c.n, list(simple("a"))}, {c.n, nested(16)}} {
			want := c.want
			if last := l[len(l)-1]; want == api.OK && last.Kind == api.NList {
				want = api.ErrInvalid
			} else if want == api.OK && syntax.Depth(last) > api.MaxDepth {
				want = api.ErrDepth
			}
			if s, errno := print.Program(l); errno != want || errno != api.OK && s != "" {
				t.Errorf("Program of %d nodes is %.60q, %d, want %d", len(l), s, errno, want)
			}
		}
	}
	for _, l := range [][]api.Node{{list(simple("a"))}, {simple("a"), list(simple("b"))}, {list(simple("a")), nested(16)}} {
		if s, errno := print.Program(l); s != "" || errno != api.ErrInvalid {
			t.Errorf("Program(%.60q) is %d", s, errno)
		}
	}
	if s, errno := print.Program([]api.Node{nested(16), list(simple("a"))}); s != "" || errno != api.ErrDepth {
		t.Errorf("Program(%.60q) is %d", s, errno)
	}
}

// TestTooLong checks sources of MaxText bytes, and of one more.
func TestTooLong(t *testing.T) {
	long := simple("a", strings.Repeat("b", api.MaxText-2))
	longer := simple("a", strings.Repeat("b", api.MaxText-1))
	shorter := simple("a", strings.Repeat("b", api.MaxText-3))
	here := func(size int) api.Node {
		n := simple("a")
		n.Redirs = []api.Redir{{Op: api.RHere, Target: api.Word{Parts: []api.Part{{Kind: api.PQuoted, Text: strings.Repeat("b", size-1) + "\n"}}}}}
		return n
	}
	rest := len("a <<'EOF'\nEOF\n")
	for _, c := range []struct {
		l    []api.Node
		want api.Errno
	}{{[]api.Node{long}, api.ErrTooLong}, {[]api.Node{shorter}, api.OK}, {[]api.Node{shorter, simple("a")}, api.ErrTooLong}, {[]api.Node{longer, {}}, api.ErrInvalid}, {[]api.Node{longer, list(simple("a"))}, api.ErrInvalid}, {[]api.Node{here(api.MaxText - rest)}, api.OK}, {[]api.Node{here(api.MaxText - rest + 1)}, api.ErrTooLong}} {
		if s, errno := print.Program(c.l); errno != c.want || errno != api.OK && s != "" || errno == api.OK && len(s) != api.MaxText {
			t.Errorf("Program of %d nodes is %.60q, %d, want %d", len(c.l), s, errno, c.want)
		}
	}
	for _, c := range []struct {
		n    api.Node
		want api.Errno
	}{{long, api.OK}, {longer, api.ErrTooLong}, {here(api.MaxText - rest), api.OK}, {here(api.MaxText - rest + 1), api.ErrTooLong}} {
		if s, errno := print.Node(c.n); errno != c.want || errno != api.OK && s != "" || errno == api.OK && len(s) != api.MaxText {
			t.Errorf("Node is %.60q, %d, want %d", s, errno, c.want)
		}
		if s, errno := print.Brief(c.n); errno != api.OK || len(s) != 64 && len(c.n.Redirs) == 0 {
			t.Errorf("Brief is %.60q, %d", s, errno)
		}
	}
	var l []string
	for i := range 300 {
		l = append(l, strings.Repeat("c", i))
	}
	if s, errno := print.Node(simple(slices.Concat([]string{"a"}, l[1:])...)); s != "" || errno != api.ErrTooLong {
		t.Errorf("Node of many words is %.60q, %d", s, errno)
	}
}
