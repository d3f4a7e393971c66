package parse_test

import (
	"strings"
	"testing"

	"jobshell/api"
	"jobshell/parse"
)

// failing is a source with the error that its first line has.
type failing struct {
	s     string
	at    int
	errno api.Errno
}

// checkErrors checks Program, Line at the offset 0, and Complete.
func checkErrors(t *testing.T, l []failing) {
	t.Helper()
	for _, c := range l {
		if nodes, at, errno := parse.Program(c.s); len(nodes) != 0 || at != c.at || errno != c.errno {
			t.Errorf("Program(%.60q) is %s, %d, %d, want %d, %d", c.s, sketch(nodes), at, errno, c.at, c.errno)
		}
		if nodes, at, errno := parse.Line(c.s, 0); len(nodes) != 0 || at != c.at || errno != c.errno {
			t.Errorf("Line(%.60q, 0) is %s, %d, %d, want %d, %d", c.s, sketch(nodes), at, errno, c.at, c.errno)
		}
		checkComplete(t, c.s, c.errno)
	}
}

// checkComplete checks Complete of a source for which Program returns an error.
func checkComplete(t *testing.T, s string, errno api.Errno) {
	t.Helper()
	want := errno
	if errno == api.ErrIncomplete {
		want = api.OK
	}
	if done, e := parse.Complete(s); done != (errno == api.OK) || e != want {
		t.Errorf("Complete(%.60q) is %v, %d", s, done, e)
	}
}

func TestGrammarErrors(t *testing.T) {
	checkErrors(t, []failing{
		{"a |", 3, api.ErrIncomplete}, {"a |\n\n", 5, api.ErrIncomplete}, {"a && ", 5, api.ErrIncomplete}, {"a || #b", 7, api.ErrIncomplete}, {"!", 1, api.ErrIncomplete}, {"a | ;", 4, api.ErrSyntax}, {"a &&& b", 4, api.ErrSyntax}, {"a && || b", 5, api.ErrSyntax}, {"a ||| b", 4, api.ErrSyntax},
		{"; a", 0, api.ErrSyntax}, {"a;;", 1, api.ErrSyntax}, {"a; ;", 3, api.ErrSyntax}, {"a & & b", 4, api.ErrSyntax}, {"a &; b", 3, api.ErrSyntax}, {"&", 0, api.ErrSyntax}, {"|a", 0, api.ErrSyntax}, {"&&", 0, api.ErrSyntax}, {")", 0, api.ErrSyntax}, {"a)", 1, api.ErrSyntax}, {"a; fi", 3, api.ErrSyntax},
		{"! ! a", 2, api.ErrSyntax}, {"a | ! b", 4, api.ErrSyntax}, {"!\na", 1, api.ErrSyntax}, {"! | a", 2, api.ErrSyntax},
		{"in", 0, api.ErrSyntax}, {"do", 0, api.ErrSyntax}, {"done a", 0, api.ErrSyntax}, {"}", 0, api.ErrSyntax}, {"then", 0, api.ErrSyntax}, {"elif", 0, api.ErrSyntax}, {"else", 0, api.ErrSyntax}, {"esac", 0, api.ErrSyntax}, {"i\\\nf a; then b; fi", 0, api.ErrSyntax}, {"in() (a)", 0, api.ErrSyntax},
		{"{", 1, api.ErrIncomplete}, {"{ a", 3, api.ErrIncomplete}, {"{ a }", 5, api.ErrIncomplete}, {"{ a;", 4, api.ErrIncomplete}, {"{ a\n", 4, api.ErrIncomplete}, {"{ a; )", 5, api.ErrSyntax}, {"{ a; fi", 5, api.ErrSyntax}, {"{ }", 2, api.ErrSyntax}, {"{ ; a; }", 2, api.ErrSyntax}, {"{ a;; }", 3, api.ErrSyntax}, {"{ a\n; b; }", 4, api.ErrSyntax}, {"{ a; } b", 7, api.ErrSyntax}, {"{ a; } >f b", 10, api.ErrSyntax}, {"{ a; } { b; }", 7, api.ErrSyntax},
		{"(", 1, api.ErrIncomplete}, {"(a", 2, api.ErrIncomplete}, {"()", 1, api.ErrSyntax}, {"(a }", 4, api.ErrIncomplete}, {"(a; }", 4, api.ErrSyntax}, {"(a) b", 4, api.ErrSyntax}, {"(a)(b)", 3, api.ErrSyntax}, {"a (b)", 3, api.ErrSyntax}, {"a b()", 3, api.ErrSyntax},
		{"if", 2, api.ErrIncomplete}, {"if a", 4, api.ErrIncomplete}, {"if a; then b", 12, api.ErrIncomplete}, {"if a; then b; else", 18, api.ErrIncomplete}, {"if a; then b; elif c; then d; ", 30, api.ErrIncomplete}, {"if a then b; fi", 13, api.ErrSyntax}, {"if a; b; fi", 9, api.ErrSyntax}, {"if ; then b; fi", 3, api.ErrSyntax}, {"if then b; fi", 3, api.ErrSyntax}, {"if a; then fi", 11, api.ErrSyntax}, {"if a; then b; else fi", 19, api.ErrSyntax}, {"if a; then b; elif then c; fi", 19, api.ErrSyntax}, {"if a; then b; else c; else d; fi", 22, api.ErrSyntax}, {"if a; then b; else c; elif d; then e; fi", 22, api.ErrSyntax}, {"if a; then b; elif c; fi", 22, api.ErrSyntax}, {"if a; then b; done", 14, api.ErrSyntax}, {"if() { a; }", 3, api.ErrSyntax},
		{"while", 5, api.ErrIncomplete}, {"while a; do b", 13, api.ErrIncomplete}, {"while a; b; done", 12, api.ErrSyntax}, {"while a; do done", 12, api.ErrSyntax}, {"while do a; done", 6, api.ErrSyntax}, {"until a; do b; fi", 15, api.ErrSyntax}, {"until a; then b; done", 9, api.ErrSyntax},
		{"for", 3, api.ErrIncomplete}, {"for x", 5, api.ErrIncomplete}, {"for x in a", 10, api.ErrIncomplete}, {"for x in a;", 11, api.ErrIncomplete}, {"for x do a", 10, api.ErrIncomplete}, {"for 1 in a; do b; done", 4, api.ErrSyntax}, {"for 'x' do a; done", 4, api.ErrSyntax}, {"for x\\\ny do a; done", 4, api.ErrSyntax}, {"for \nx do a; done", 4, api.ErrSyntax}, {"for ; do a; done", 4, api.ErrSyntax}, {"for " + strings.Repeat("x", 33) + " do a; done", 4, api.ErrSyntax}, {"for x in a do b; done", 17, api.ErrSyntax}, {"for x a; do b; done", 6, api.ErrSyntax}, {"for x; in a; do b; done", 7, api.ErrSyntax}, {"for x\n; do b; done", 6, api.ErrSyntax}, {"for x & do b; done", 6, api.ErrSyntax}, {"for x in a & do b; done", 11, api.ErrSyntax}, {"for x in 2>f; do b; done", 9, api.ErrSyntax}, {"for x in a; ; do b; done", 12, api.ErrSyntax}, {"for x i\\\nn a; do b; done", 6, api.ErrSyntax}, {"for x do a; }", 12, api.ErrSyntax},
		{"case", 4, api.ErrIncomplete}, {"case a", 6, api.ErrIncomplete}, {"case a\n", 7, api.ErrIncomplete}, {"case a in", 9, api.ErrIncomplete}, {"case a in b", 11, api.ErrIncomplete}, {"case a in (", 11, api.ErrIncomplete}, {"case a in b|", 12, api.ErrIncomplete}, {"case a in b)", 12, api.ErrIncomplete}, {"case a in b) c", 14, api.ErrIncomplete}, {"case a in b) c;;", 16, api.ErrIncomplete}, {"case a in b) c esac", 19, api.ErrIncomplete}, {"case a b", 7, api.ErrSyntax}, {"case ; in esac", 5, api.ErrSyntax}, {"case\na in esac", 4, api.ErrSyntax}, {"case a; in esac", 6, api.ErrSyntax}, {"case a in ) b;; esac", 10, api.ErrSyntax}, {"case a in b c) d;; esac", 12, api.ErrSyntax}, {"case a in b|) c;; esac", 12, api.ErrSyntax}, {"case a in (b|\nc) d;; esac", 13, api.ErrSyntax}, {"case a in\n(\nb) c;; esac", 11, api.ErrSyntax}, {"case a in ((b) c;; esac", 11, api.ErrSyntax}, {"case a in b) ;;;; esac", 15, api.ErrSyntax}, {"case a in b) ; esac", 13, api.ErrSyntax}, {"case a in ;; esac", 10, api.ErrSyntax}, {"case a in b) c; } esac", 16, api.ErrSyntax}, {"case a in b) } esac", 13, api.ErrSyntax}, {"case a in b) c;; fi", 19, api.ErrIncomplete}, {"case a in esac b", 15, api.ErrSyntax}, {"case a in esac) b;; esac", 14, api.ErrSyntax}, {"case a in 2>f) b;; esac", 10, api.ErrSyntax}, {"case 2>f in esac", 5, api.ErrSyntax},
		{"f(", 2, api.ErrIncomplete}, {"f()", 3, api.ErrIncomplete}, {"f()\n", 4, api.ErrIncomplete}, {"f() a", 4, api.ErrSyntax}, {"f() >g (a)", 4, api.ErrSyntax}, {"f() g() (a)", 4, api.ErrSyntax}, {"f(a) { b; }", 2, api.ErrSyntax}, {"f(\n) { b; }", 2, api.ErrSyntax}, {"f(); { b; }", 3, api.ErrSyntax}, {"f() ! (a)", 4, api.ErrSyntax}, {"1() (a)", 1, api.ErrSyntax}, {"'f'() (a)", 3, api.ErrSyntax}, {"f\\\ng() (a)", 4, api.ErrSyntax}, {"x=1 f() (a)", 5, api.ErrSyntax}, {">g f() (a)", 4, api.ErrSyntax}, {strings.Repeat("f", 33) + "() (a)", 33, api.ErrSyntax}, {"f() { a; } b", 11, api.ErrSyntax},
	})
}

func TestErrorsOfLowerLayers(t *testing.T) {
	checkErrors(t, []failing{
		{"a 'b", 2, api.ErrIncomplete}, {"a; \"b", 3, api.ErrIncomplete}, {"a b\\", 3, api.ErrIncomplete}, {"{ a; } 'b", 7, api.ErrIncomplete}, {"f 'b", 2, api.ErrIncomplete}, {"f( $(", 3, api.ErrIncomplete}, {"for x in `a", 9, api.ErrIncomplete}, {"case a in b) $((1)", 13, api.ErrIncomplete}, {"f() ${", 4, api.ErrIncomplete}, {"a $((1) )", 6, api.ErrSyntax},
		{"a b${c!}", 6, api.ErrSyntax}, {"x=a${c!}", 6, api.ErrSyntax}, {"for x in a b${c!}", 15, api.ErrSyntax}, {"case a${b!} in esac", 9, api.ErrSyntax}, {"case a in b|c${d!}) e;; esac", 16, api.ErrSyntax}, {"(a) >f${b!}", 9, api.ErrSyntax}, {"a | b $" + strings.Repeat("c", 33), 6, api.ErrTooLong}, {"a \"${b-" + strings.Repeat("${b-", 31) + strings.Repeat("}", 32) + "\"", 126, api.ErrDepth},
		{"a >", 3, api.ErrIncomplete}, {"a > ;", 4, api.ErrSyntax}, {"(a) >", 5, api.ErrIncomplete}, {"(a) 02>f", 4, api.ErrSyntax}, {"(a) <<$b", 6, api.ErrSyntax}, {"a <<$b", 4, api.ErrSyntax}, {"(a) > | b", 6, api.ErrSyntax},
		{strings.Repeat(" ", api.MaxText+1), 0, api.ErrTooLong}, {"a\n" + strings.Repeat("b", api.MaxText), 0, api.ErrTooLong}, {"; '" + strings.Repeat("b", api.MaxText), 0, api.ErrTooLong},
	})
	if l, at, errno := parse.Line("a\n"+strings.Repeat("b", api.MaxText), 2); len(l) != 0 || at != 0 || errno != api.ErrTooLong {
		t.Errorf("Line of a text that is too long is %s, %d, %d", sketch(l), at, errno)
	}
	if l, at, errno := parse.Line("a; fi\n b; fi", 6); len(l) != 0 || at != 10 || errno != api.ErrSyntax {
		t.Errorf("Line of the second line is %s, %d, %d", sketch(l), at, errno)
	}
	if l, at, errno := parse.Line("'a b'", 4); len(l) != 0 || at != 4 || errno != api.ErrIncomplete {
		t.Errorf("Line within quotes is %s, %d, %d", sketch(l), at, errno)
	}
}

func TestErrorsOfCommandSubstitutions(t *testing.T) {
	checkErrors(t, []failing{
		{"echo $(b;;)", 5, api.ErrSyntax}, {"echo a$(if)", 5, api.ErrSyntax}, {"a $(b 2>$(c |))", 2, api.ErrSyntax}, {"a b `fi` c", 4, api.ErrSyntax}, {"a $(b <<E)", 2, api.ErrSyntax}, {"a $(b <<E\n)", 2, api.ErrSyntax}, {"a $(b $" + strings.Repeat("c", 33) + ")", 2, api.ErrTooLong}, {"a $(" + strings.Repeat("{ ", 16) + "b" + strings.Repeat("; }", 16) + ")", 2, api.ErrDepth}, {"a $(" + strings.Repeat("b\n", 2049) + ")", 2, api.ErrLimit}, {"a $(" + strings.Repeat("b;", 2049) + ")", 2, api.ErrLimit},
		{"a \"b$(fi)\"", 2, api.ErrSyntax}, {"a b${c-d$(fi)}", 2, api.ErrSyntax}, {"a $((1+$(fi)))", 2, api.ErrSyntax}, {"xy=a$(fi) b", 3, api.ErrSyntax}, {"a >b$(fi)", 3, api.ErrSyntax}, {"(a) >f >b$(fi)", 8, api.ErrSyntax}, {"for x in a b$(fi); do c; done", 11, api.ErrSyntax}, {"case a$(fi) in esac", 5, api.ErrSyntax}, {"case a in (b | c$(fi)) d;; esac", 15, api.ErrSyntax},
		// Those of a simple command are checked after the command, in the order of its words.
		{"a $(fi) 'b", 8, api.ErrIncomplete}, {"a $(fi) >;", 9, api.ErrSyntax}, {"a $(fi) ${b!}", 11, api.ErrSyntax}, {"a $(fi); 'b", 2, api.ErrSyntax}, {"a $(fi) | ;", 2, api.ErrSyntax}, {"a $(fi))", 2, api.ErrSyntax}, {"a >$(fi) $(b $" + strings.Repeat("c", 33) + ")", 9, api.ErrTooLong}, {">$(fi) x=$(b $" + strings.Repeat("c", 33) + ")", 9, api.ErrTooLong}, {"x=$(b $" + strings.Repeat("c", 33) + ") y=$(fi) a", 2, api.ErrTooLong}, {"a $(b $" + strings.Repeat("c", 33) + ")$(fi)", 2, api.ErrTooLong}, {"a $(fi)$(b $" + strings.Repeat("c", 33) + ")", 2, api.ErrSyntax},
		// Those of other words are checked before the next token is read.
		{"for x in $(fi) 'b", 9, api.ErrSyntax}, {"for x in $(fi) ${b!}; do", 9, api.ErrSyntax}, {"case $(fi) 'b", 5, api.ErrSyntax}, {"case a in $(fi) 'b", 10, api.ErrSyntax}, {"(a) >$(fi) 'b", 5, api.ErrSyntax}, {"(a) >$(fi) >;", 5, api.ErrSyntax},
		// A token that the grammar does not permit is not a word.
		{"(a) $(b $" + strings.Repeat("c", 33) + ")", 4, api.ErrSyntax}, {"for $(b $" + strings.Repeat("c", 33) + ") in", 4, api.ErrSyntax}, {"f() ${a!}", 4, api.ErrSyntax}, {"case a ${b!}", 7, api.ErrSyntax},
	})
}

func TestErrorsOfHereDocuments(t *testing.T) {
	checkErrors(t, []failing{
		{"cat <<E", 7, api.ErrIncomplete}, {"cat <<E #a", 10, api.ErrIncomplete}, {"{ cat <<E", 9, api.ErrIncomplete}, {"a <<E |", 7, api.ErrIncomplete}, {"(a) <<E;", 8, api.ErrIncomplete}, {"a <<E '\nE\n'", 11, api.ErrIncomplete},
		{"cat <<E\n", 8, api.ErrIncomplete}, {"cat <<E\nx", 8, api.ErrIncomplete}, {"cat <<E\n E\nE E\n", 8, api.ErrIncomplete}, {"cat <<'E'\n\tE", 10, api.ErrIncomplete}, {"a <<A <<B\n1\nA\n2\n", 14, api.ErrIncomplete}, {"a <<A <<B\n1\nB\n2\n", 10, api.ErrIncomplete}, {"cat <<E |\n)\nE", 13, api.ErrIncomplete},
		{"cat <<E\n${x\nE\n", 8, api.ErrSyntax}, {"cat <<E\na\n$((1\nE\n", 8, api.ErrSyntax}, {"cat <<E\na `\nE\n", 8, api.ErrSyntax}, {"cat <<E\na ${x!}\nE\n", 8, api.ErrSyntax}, {"cat <<-E\n\ta\n\t${x!}\n\tE\n", 9, api.ErrSyntax}, {"cat <<E\na $" + strings.Repeat("x", 33) + "\nE\n", 8, api.ErrTooLong}, {"a <<A <<B\n1\nA\n${x\nB\n", 14, api.ErrSyntax}, {"a <<A <<B\n${x!}\nA\n$" + strings.Repeat("x", 33) + "\nB\n", 10, api.ErrSyntax},
		{"cat <<E\n$(fi)\nE\n", 8, api.ErrSyntax}, {"cat <<E\na $(b |)\nE\n", 8, api.ErrSyntax}, {"a <<A <<B\n1\nA\n\n$(fi)\nB\n", 14, api.ErrSyntax}, {"cat <<E\n$(a <<F\n)\nE\n", 8, api.ErrSyntax}, {"cat <<E\n$(a $" + strings.Repeat("x", 33) + ")\nE\n", 8, api.ErrTooLong},
		// What is to the left of the contents comes first, what is to the right of them later.
		{"cat <<E; fi\n${x\nE\n", 9, api.ErrSyntax}, {"cat <<E $(fi)\n${x\nE\n", 8, api.ErrSyntax}, {"cat <<E; 'a\nE\n", 9, api.ErrIncomplete}, {"{ cat <<E\n${x\nE\n)", 10, api.ErrSyntax}, {"{ cat <<E\nE\n)", 12, api.ErrSyntax}, {"{ cat <<E\nx\n)", 10, api.ErrIncomplete}, {"a <<A && b <<B\n$(fi)\nA\n$(c $" + strings.Repeat("x", 33) + ")\nB\n", 15, api.ErrSyntax},
	})
	checkComplete(t, "cat <<E\n$x\nE", api.OK)
	checkComplete(t, "cat <<'E'\n${x\nE", api.OK)
}

// nested returns programs that are nested to a depth by command substitutions.
func nested(depth int) string {
	return strings.Repeat("a $(", depth-1) + "b" + strings.Repeat(")", depth-1)
}

func TestNestedPrograms(t *testing.T) {
	for _, s := range []string{nested(api.MaxDepth), "x=" + nested(api.MaxDepth)[2:], "cat <<E\n" + nested(api.MaxDepth)[2:] + "\nE", "f() (a) >" + nested(api.MaxDepth)[2:]} {
		if _, at, errno := parse.Program(s); at != 0 || errno != api.OK {
			t.Errorf("Program(%q) is %d, %d", s, at, errno)
		}
		checkComplete(t, s, api.OK)
	}
	deep := nested(api.MaxDepth + 1)
	checkErrors(t, []failing{{deep, 2, api.ErrDepth}, {"x=" + deep[2:], 2, api.ErrDepth}, {"b c" + deep[2:], 2, api.ErrDepth}, {"cat <<E\nb" + deep[2:] + "\nE", 8, api.ErrDepth}, {"for x in " + deep[2:], 9, api.ErrDepth}, {nested(api.MaxDepth + 9), 2, api.ErrDepth}, {"a $(a \"" + nested(api.MaxDepth)[2:] + "\")", 2, api.ErrDepth}, {"a $(b;; " + deep + ")", 2, api.ErrSyntax}})
}

func TestLimits(t *testing.T) {
	groups := func(depth int) string { return strings.Repeat("{ ", depth) + "a" + strings.Repeat("; }", depth) }
	long := "a;"
	for _, s := range []string{groups(15), "a" + strings.Repeat("&&a", 31), strings.Repeat("! (", 10) + "a" + strings.Repeat(")", 10), strings.Repeat(long, api.MaxNodes), strings.Repeat("a\n", api.MaxNodes), strings.Repeat("a &", api.MaxNodes/2), strings.Repeat(" ", api.MaxText), "a" + strings.Repeat("|a", api.MaxNodes-2)} {
		if l, at, errno := parse.Program(s); at != 0 || errno != api.OK || len(l) == 0 && strings.TrimSpace(s) != "" {
			t.Errorf("Program(%.30q) is %d, %d", s, at, errno)
		}
		checkComplete(t, s, api.OK)
	}
	checkErrors(t, []failing{
		{groups(16), 0, api.ErrDepth}, {"a" + strings.Repeat("&&a", 32), 0, api.ErrDepth}, {strings.Repeat("! (", 11) + "a" + strings.Repeat(")", 11), 0, api.ErrDepth}, {"if a; then b" + strings.Repeat("; elif a; then b", 15) + "; fi", 0, api.ErrDepth},
		{strings.Repeat(long, api.MaxNodes+1), 0, api.ErrLimit}, {strings.Repeat("a &", api.MaxNodes/2) + "a", 0, api.ErrLimit}, {"a" + strings.Repeat("|a", api.MaxNodes-1), 0, api.ErrLimit},
		{strings.Repeat(long, api.MaxNodes) + groups(16), 0, api.ErrDepth}, {strings.Repeat(long, api.MaxNodes+1) + ")", 2*api.MaxNodes + 2, api.ErrSyntax}, {groups(16) + "; b 'c", len(groups(16)) + 4, api.ErrIncomplete},
	})
	for _, c := range []failing{{"a\n " + groups(16), 2, api.ErrDepth}, {"\n\n" + strings.Repeat(long, api.MaxNodes+1), 2, api.ErrLimit}, {strings.Repeat("a\n", api.MaxNodes+1), 0, api.ErrLimit}, {strings.Repeat("a\n", api.MaxNodes+1) + "fi", 2*api.MaxNodes + 2, api.ErrSyntax}, {strings.Repeat("a\n", api.MaxNodes) + "b |", 2*api.MaxNodes + 3, api.ErrIncomplete}} {
		if l, at, errno := parse.Program(c.s); len(l) != 0 || at != c.at || errno != c.errno {
			t.Errorf("Program(%.30q) is %d nodes, %d, %d, want %d, %d", c.s, len(l), at, errno, c.at, c.errno)
		}
		checkComplete(t, c.s, c.errno)
	}
	s := "a\n " + groups(16)
	if l, at, errno := parse.Line(s, 3); len(l) != 0 || at != 3 || errno != api.ErrDepth {
		t.Errorf("Line of groups is %s, %d, %d", sketch(l), at, errno)
	}
}

// TestDeepNesting checks that no depth of a source is too much for the functions.
func TestDeepNesting(t *testing.T) {
	for _, open := range []string{"(", "{ ", "! (", "if ", "while a;do ", "case a in b)", "f()(", "a|(", "for x do ", "$(", "`$(", "${x-", "\"$(", "$((", "a&&{ "} {
		n := api.MaxText / len(open)
		l, at, errno := parse.Program(strings.Repeat(open, n))
		if len(l) != 0 || errno != api.ErrIncomplete && errno != api.ErrDepth && errno != api.ErrSyntax {
			t.Errorf("Program of many %q is %d, %d", open, at, errno)
		}
	}
	s := strings.Repeat("(", 8000) + "a" + strings.Repeat(")", 8000)
	checkErrors(t, []failing{{s, 0, api.ErrDepth}, {s + "b", 16001, api.ErrSyntax}})
}
