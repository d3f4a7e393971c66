package parse_test

import (
	"fmt"
	"strings"
	"testing"

	"jobshell/api"
	"jobshell/parse"
	"jobshell/syntax"
	"jobshell/words"
)

// letters are the kinds of nodes as letters; simple commands and functions are shown by their words and names.
const letters = "?SPNAOLBGUIWTFCD"

// sketch returns the kinds and positions of nodes.
func sketch(l []api.Node) string {
	var all []string
	for _, n := range l {
		all = append(all, sketchOf(n))
	}
	return strings.Join(all, " ")
}

func sketchOf(n api.Node) string {
	if n.Kind == api.NSimple {
		return fmt.Sprintf("%s@%d", strings.Join(texts(n.Words), ","), n.Pos)
	}
	s := fmt.Sprintf("%c@%d", letters[n.Kind], n.Pos)
	if n.Name != "" {
		s += "=" + n.Name
	}
	if n.All {
		s += "=all"
	}
	if len(n.Words) > 0 {
		s += "=" + strings.Join(texts(n.Words), ",")
	}
	kids := []string{}
	if len(n.Kids) > 0 {
		kids = append(kids, sketch(n.Kids))
	}
	for _, item := range n.Items {
		kids = append(kids, strings.Join(texts(item.Patterns), "|")+":"+sketch(item.Body))
	}
	s += "(" + strings.Join(kids, "; ") + ")"
	for _, r := range n.Redirs {
		s += fmt.Sprintf("+%d/%d/%d%s", r.Pos, r.Fd, r.Op, texts([]api.Word{r.Target}))
	}
	return s
}

// texts returns the sources of words.
func texts(l []api.Word) []string {
	var all []string
	for _, w := range l {
		s, _ := words.Show(w.Parts)
		all = append(all, s)
	}
	return all
}

func TestProgram(t *testing.T) {
	for s, want := range map[string]string{
		"": "", " \t": "", "\n\n": "", "# a; b": "", "#a\n#b": "", "\\\n": "",
		"a": "a@0", " a b ": "a,b@1", "a\n": "a@0", "a\nb": "a@0 b@2", "a\n\n\nb\n\n": "a@0 b@4", "a # b\nc": "a@0 c@6",
		"a;": "a@0", "a;b": "a@0 b@2", "a ; b;\nc": "a@0 b@4 c@7",
		"a&": "B@0(a@0)", "a; b & c": "a@0 B@3(b@3) c@7", "a&b&": "B@0(a@0) B@2(b@2)", "a && b & c": "B@0(A@0(a@0 b@5)) c@9",
		"a&&b": "A@0(a@0 b@3)", "a||b": "O@0(a@0 b@3)", "a&&b||c&&d": "A@0(O@0(A@0(a@0 b@3) c@6) d@9)", "a || b &&\n\n c": "A@0(O@0(a@0 b@5) c@12)",
		"a|b": "P@0(a@0 b@2)", "a |\n# x\n\n b | c": "P@0(a@0 b@10 c@14)", "a|b&&c|d": "A@0(P@0(a@0 b@2) P@5(c@5 d@7))",
		"! a": "N@0(a@2)", " ! a|b": "N@1(P@3(a@3 b@5))", "! a | b && c": "A@0(N@0(P@2(a@2 b@6)) c@11)", "a && ! b||\n!\tc": "O@0(A@0(a@0 N@5(b@7)) N@11(c@13))", "! a &": "B@0(N@0(a@2))", "!a": "!a@0", "a !": "a,!@0",
		"{ a; }": "G@0(L@2(a@2))", "{ a;b & c\n}": "G@0(L@2(a@2 B@4(b@4) c@8))", "{ (a) }": "G@0(L@2(U@2(L@3(a@3))))", "{ { a; } }": "G@0(L@2(G@2(L@4(a@4))))", "{a": "{a@0", "{ a }; }": "G@0(L@2(a,}@2))",
		"(a)": "U@0(L@1(a@1))", "((a)|b)": "U@0(L@1(P@1(U@1(L@2(a@2)) b@5)))", "( a;\n\n b & )": "U@0(L@2(a@2 B@7(b@7)))", "(a\n\n)": "U@0(L@1(a@1))",
		"if a; then b; fi": "I@0(L@3(a@3) L@11(b@11))", "if a;b;then c;else d;fi": "I@0(L@3(a@3 b@5) L@12(c@12) L@19(d@19))", "if a; then b; elif c; then d; fi": "I@0(L@3(a@3) L@11(b@11) L@14(I@14(L@19(c@19) L@27(d@27))))",
		"if a; then b; elif c; then d; elif e; then f; else g; fi": "I@0(L@3(a@3) L@11(b@11) L@14(I@14(L@19(c@19) L@27(d@27) L@30(I@30(L@35(e@35) L@43(f@43) L@51(g@51))))))", "if (a) then { b; } else (c) fi": "I@0(L@3(U@3(L@4(a@4))) L@12(G@12(L@14(b@14))) L@24(U@24(L@25(c@25))))", "if a& then b\nfi": "I@0(L@3(B@3(a@3)) L@11(b@11))",
		"while a; do b; done": "W@0(L@6(a@6) L@12(b@12))", "until a & do b; c; done": "T@0(L@6(B@6(a@6)) L@13(b@13 c@16))",
		"for x do a; done": "F@0=x=all(L@9(a@9))", "for x; do a; done": "F@0=x=all(L@10(a@10))", "for x;\n\ndo a; done": "F@0=x=all(L@11(a@11))", "for x\n\ndo a; done": "F@0=x=all(L@10(a@10))", "for x in; do a; done": "F@0=x(L@13(a@13))", "for x\nin a do in\n\ndo b; done": "F@0=x=a,do,in(L@21(b@21))", "for if in a\ndo b; done": "F@0=if=a(L@15(b@15))", "for do do a; done": "F@0=do=all(L@10(a@10))", "for in in in; do a; done": "F@0=in=in(L@17(a@17))", "for x in \"$a\" }; do b; done": "F@0=x=\"$a\",}(L@20(b@20))",
		"case a in esac": "C@0=a()", "case a\n\nin\n\nesac": "C@0=a()", "case in in esac": "C@0=in()", "case esac in a) esac": "C@0=esac(a:)", "case a in b) esac": "C@0=a(b:)", "case a in b) c;; esac": "C@0=a(b:L@13(c@13))", "case a in b) c; esac": "C@0=a(b:L@13(c@13))", "case a in b) c;;\n\n(d|e)f;; esac": "C@0=a(b:L@13(c@13); d|e:L@23(f@23))", "case a in (esac) b\nesac": "C@0=a(esac:L@17(b@17))", "case a in (b|esac) ;; c) ;; esac": "C@0=a(b|esac:; c:)", "case a in b|esac) ;; esac": "C@0=a(b|esac:)", "case a in b)\n\n;;\n\nc) d\ne & esac": "C@0=a(b:; c:L@21(d@21 B@23(e@23)))", "case a in if) (b) esac": "C@0=a(if:L@14(U@14(L@15(b@15))))", "case a in b) { c; };; esac": "C@0=a(b:L@13(G@13(L@15(c@15))))",
		"f() { a; }": "D@0=f(G@4(L@6(a@6)))", "f ( ) (a)": "D@0=f(U@6(L@7(a@7)))", "f()\n\nif a; then b; fi": "D@0=f(I@5(L@8(a@8) L@16(b@16)))", "f() case a in esac": "D@0=f(C@4=a())", "f() for x do a; done | b": "P@0(D@0=f(F@4=x=all(L@13(a@13))) b@23)", "! f() (a) && g() (b)": "A@0(N@0(D@2=f(U@6(L@7(a@7)))) D@13=g(U@17(L@18(b@18))))", "a |\nf() (b)": "P@0(a@0 D@4=f(U@8(L@9(b@9))))", "{ f() (a) }": "G@0(L@2(D@2=f(U@6(L@7(a@7)))))",
		"{ a; } >f 2>&1": "G@0(L@2(a@2))+7/1/2[f]+10/2/5[1]", "(a)<f": "U@0(L@1(a@1))+3/0/1[f]", "if a; then b; fi 3>>f": "I@0(L@3(a@3) L@11(b@11))+17/3/3[f]", "while a; do b; done<&3 | c": "P@0(W@0(L@6(a@6) L@12(b@12))+19/0/4[3] c@25)", "until a; do b; done <>f": "T@0(L@6(a@6) L@12(b@12))+20/0/6[f]", "for x do a; done>|f": "F@0=x=all(L@9(a@9))+16/1/7[f]", "case a in esac > f": "C@0=a()+15/1/2[f]", "f() (a) >g": "D@0=f(U@4(L@5(a@5))+8/1/2[g])", "{ (a) >f }": "G@0(L@2(U@2(L@3(a@3))+6/1/2[f]))",
		"'if' a": "'if',a@0", "echo if then fi }": "echo,if,then,fi,}@0", "\"f\" a": "\"f\",a@0", "x=1 y": "y@0", "x=1": "@0", ">f": "@0", "2>f a": "a@0", "a $(b; c) `d|e`": "a,$(b; c),$(d|e)@0", "a $(\n) $() $(# x\n)": "a,$(\n),$(),$(# x\n)@0", "a \"$(if b; then c; fi)$((1+$(d)))${x-$(e)}\"": "a,\"$(if b; then c; fi)$((1+$(d)))${x-$(e)}\"@0",
	} {
		l, at, errno := parse.Program(s)
		if sketch(l) != want || at != 0 || errno != api.OK {
			t.Errorf("Program(%q) is %s, %d, %d, want %s", s, sketch(l), at, errno, want)
		}
	}
}

func literal(s string) []api.Part { return []api.Part{{Kind: api.PText, Text: s}} }

func quoted(s string) []api.Part { return []api.Part{{Kind: api.PQuoted, Text: s}} }

// hereTargets returns the Targets of all here-documents, in the order of the nodes.
func hereTargets(l []api.Node) []api.Word {
	var all []api.Word
	for _, n := range l {
		for _, k := range syntax.Walk(n) {
			for _, r := range k.Redirs {
				if r.Op == api.RHere {
					all = append(all, r.Target)
				}
			}
		}
	}
	return all
}

func TestHereDocuments(t *testing.T) {
	param := api.Part{Kind: api.PParam, Text: "x"}
	for s, want := range map[string][]api.Word{
		"cat <<E; a\nx\nE\nb":                    {{Pos: 11, Parts: literal("x\n")}},
		"cat <<E\nE":                             {{Pos: 8}},
		"cat <<'E'\nE\n":                         {{Pos: 10}},
		"cat <<E\n$x\nE\n":                       {{Pos: 8, Parts: []api.Part{param, literal("\n")[0]}}},
		"cat <<E\na\\\nb\\$x\nE":                 {{Pos: 8, Parts: literal("ab$x\n")}},
		"cat <<\\E\n$x`\n 'E'\nE":                {{Pos: 9, Parts: quoted("$x`\n 'E'\n")}},
		"cat <<-E\n\tx\n\t\tE":                   {{Pos: 9, Parts: literal("x\n")}},
		"cat <<E\n\tx\n\tE\nE":                   {{Pos: 8, Parts: literal("\tx\n\tE\n")}},
		"cat <<-\"E\"\n\t$x\n\tE":                {{Pos: 11, Parts: quoted("$x\n")}},
		"a <<A 3<<B | c <<C\nA\n1\nB\n2\nC":      {{Pos: 19}, {Pos: 21, Parts: literal("1\n")}, {Pos: 25, Parts: literal("2\n")}},
		"a <<A && \\\nb '\n' <<A\nA\n1\nA":       {{Pos: 21}, {Pos: 23, Parts: literal("1\n")}},
		"a <<A &&\nA\nb <<A\n1\nA":               {{Pos: 9}, {Pos: 17, Parts: literal("1\n")}},
		"{ a <<A; } <<B\n1\nA\n2\nB":             {{Pos: 19, Parts: literal("2\n")}, {Pos: 15, Parts: literal("1\n")}},
		"{ a <<A\n1\nA\n} <<B\n2\nB":             {{Pos: 18, Parts: literal("2\n")}, {Pos: 8, Parts: literal("1\n")}},
		"(a <<A\nA\nb)":                          {{Pos: 7}},
		"a <<A | if\n1\nA\nb; then c; fi":        {{Pos: 11, Parts: literal("1\n")}},
		"a <<A | for x\n1\nA\ndo b; done":        {{Pos: 14, Parts: literal("1\n")}},
		"a <<A | for x in b\n1\nA\ndo c; done":   {{Pos: 19, Parts: literal("1\n")}},
		"a <<A | for x;\n1\nA\ndo c; done":       {{Pos: 15, Parts: literal("1\n")}},
		"a <<A | case x\n1\nA\nin b) esac":       {{Pos: 15, Parts: literal("1\n")}},
		"a <<A | case x in\n1\nA\nb) esac":       {{Pos: 18, Parts: literal("1\n")}},
		"a <<A | case x in b)\n1\nA\nesac":       {{Pos: 21, Parts: literal("1\n")}},
		"a <<A | case x in b) ;;\n1\nA\nc) esac": {{Pos: 24, Parts: literal("1\n")}},
		"case x in b) a <<A\n1\nA\nesac":         {{Pos: 19, Parts: literal("1\n")}},
		"a <<A | f()\n1\nA\n(b)":                 {{Pos: 12, Parts: literal("1\n")}},
		"f() (a) <<A\n1\nA":                      {{Pos: 12, Parts: literal("1\n")}},
		"a <<A & b ||\n1\nA\nc":                  {{Pos: 13, Parts: literal("1\n")}},
		"a <<A |\n1\nA\nc":                       {{Pos: 8, Parts: literal("1\n")}},
		"while a <<A; do b; done\n1\nA":          {{Pos: 24, Parts: literal("1\n")}},
		"a <<A # <<B\n1\nA":                      {{Pos: 12, Parts: literal("1\n")}},
		"a $(b <<A\n1\nA\n) <<A\n2\nA":           {{Pos: 20, Parts: literal("2\n")}},
		"a <<''\nb\n\nc":                         {{Pos: 7, Parts: quoted("b\n")}},
		"a <<A\n$(b;\nc)\nA":                     {{Pos: 6, Parts: []api.Part{{Kind: api.PCommand, Text: "b;\nc"}, literal("\n")[0]}}},
	} {
		l, at, errno := parse.Program(s)
		if got := hereTargets(l); fmt.Sprint(got) != fmt.Sprint(want) || at != 0 || errno != api.OK {
			t.Errorf("the here-documents of %q are %+v, %d, %d, want %+v", s, got, at, errno, want)
		}
	}
}

func TestLine(t *testing.T) {
	for _, c := range []struct {
		s    string
		at   int
		want string
		end  int
	}{
		{"", 0, "", 0}, {"", -1, "", 0}, {"", 7, "", 0}, {"\n", 0, "", 1}, {"a  ", 0, "a@0", 3}, {"a #b", 0, "a@0", 4}, {"a;\nb", 0, "a@0", 3}, {"a;\nb", -3, "a@0", 3}, {"a;\nb", 2, "", 3}, {"a;\nb", 3, "b@3", 4}, {"a;\nb", 4, "", 4}, {"a;\nb", 99, "", 4}, {"abc", 1, "bc@1", 3}, {"a\n'", 0, "a@0", 2}, {"a\n)", 0, "a@0", 2}, {"a & b && c &\n fi", 0, "B@0(a@0) B@4(A@4(b@4 c@9))", 13},
		{"{ a\nb; }; c\nd", 0, "G@0(L@2(a@2 b@4)) c@10", 12}, {"a &&\nb\nc", 0, "A@0(a@0 b@5)", 7},
		{"cat <<E; a\nx\nE\nb", 0, "cat@0 a@9", 15}, {"cat <<E; a\nx\nE\nb", 11, "x@11", 13}, {"a <<A <<B\n1\nA\nB\nc", 0, "a@0", 16}, {"a <<A\nA", 0, "a@0", 7}, {"a <<A &&\n1\nA\nb\nc", 0, "A@0(a@0 b@13)", 15},
	} {
		if l, at, errno := parse.Line(c.s, c.at); sketch(l) != c.want || at != c.end || errno != api.OK {
			t.Errorf("Line(%q, %d) is %s, %d, %d, want %s, %d", c.s, c.at, sketch(l), at, errno, c.want, c.end)
		}
	}
}
