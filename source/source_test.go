package source_test

import (
	"strings"
	"testing"

	"jobshell/api"
	"jobshell/small"
	"jobshell/source"
	"jobshell/words"
)

func text(s string) api.Part { return api.Part{Kind: api.PText, Text: s} }

func command(s string) api.Part { return api.Part{Kind: api.PCommand, Text: s} }

func param(s string) api.Part { return api.Part{Kind: api.PParam, Text: s} }

func arith(l ...api.Part) api.Part { return api.Part{Kind: api.PArith, Parts: l} }

func with(s string, l ...api.Part) api.Part {
	return api.Part{Kind: api.PParam, Text: s, Op: api.OpDefault, Parts: l}
}

func TestSources(t *testing.T) {
	for _, c := range []struct {
		parts          []api.Part
		here, shortest string
	}{
		{nil, "", ""},
		{[]api.Part{text("a\"'\n #~b")}, "a\"'\n #~b", "a\"'\n #~b"},
		{[]api.Part{text("$ $")}, "\\$ \\$", "$ $"},
		{[]api.Part{text("$a$1${$($@$!$$")}, "\\$a\\$1\\${\\$(\\$@\\$!\\$\\$", "\\$a\\$1\\${\\$(\\$@\\$!\\$$"},
		{[]api.Part{text("\\a\\$\\`\\\\\\\n\\")}, "\\\\a\\\\\\$\\\\\\`\\\\\\\\\\\\\n\\\\", "\\a\\\\$\\\\\\`\\\\\\\\\\\\\n\\"},
		{[]api.Part{text("}`")}, "}\\`", "}\\`"},
		{[]api.Part{param("x"), text("y"), param("x"), text("-"), param("1"), text("0"), param("10"), param("#")}, "${x}y$x-$10${10}$#", "${x}y$x-$10${10}$#"},
		{[]api.Part{{Kind: api.PParam, Text: "x", Op: api.OpLength}, {Kind: api.PParam, Text: "x", Op: api.OpLongPrefix}}, "${#x}${x##}", "${#x}${x##}"},
		{[]api.Part{{Kind: api.PParam, Text: "x", Op: api.OpError, Colon: true, Parts: []api.Part{text("}\\}\\\"$ $}\\")}}}, "${x:?\\}\\\\\\}\\\\\"\\$ \\$\\}\\\\}", "${x:?\\}\\\\\\}\\\"$ $\\}\\\\}"},
		{[]api.Part{arith(text("\\1\\($ (\\)}\\}\\"))}, "$((\\\\1\\\\(\\$ (\\\\)}\\\\}\\\\))", "$((\\1\\\\($ (\\\\)}\\}\\\\))"},
		{[]api.Part{arith(with("x", text("\\()")))}, "$((${x-\\\\()}))", "$((${x-\\()}))"},
		{[]api.Part{text("$"), command("a"), text("\\"), command("b")}, "\\$$(a)\\\\$(b)", "$`a`\\\\`b`"},
		{[]api.Part{command("`a`"), command("`")}, "$(`a`)$(`)", "$(`a`)`\\``"},
		{[]api.Part{command("\\a$\\$\\\\\\`")}, "$(\\a$\\$\\\\\\`)", "$(\\a$\\$\\\\\\`)"},
		{[]api.Part{command("\\a$\\$")}, "$(\\a$\\$)", "`\\a$\\\\$`"},
		{[]api.Part{command(" (a)"), command(" (#\n"), command("#a\n"), command("a\n"), command("a\\\n")}, "$( (a))$( (#\n)$(#a\n)$(a\n)$(a\\\n)", "`(a)``(#``#a``a\n``a\\\\`"},
	} {
		if s := source.Of(c.parts, source.Here); s != c.here {
			t.Errorf("Of(%+v) is %q, want %q", c.parts, s, c.here)
		}
		if s := source.Shortest(c.parts); s != c.shortest {
			t.Errorf("Shortest(%+v) is %q, want %q", c.parts, s, c.shortest)
		}
	}
}

// checkHere checks that the sources of the parts of a here-document are parsed as these parts, and that none of them is shorter than the shortest one.
func checkHere(t *testing.T, s string) {
	t.Helper()
	l, _, errno := words.Here(s)
	if errno != api.OK {
		return
	}
	if again, _, errno := words.Here(source.Of(l, source.Here)); !words.Same(l, again) || errno != api.OK {
		t.Fatalf("the source %q of %+v has the parts %+v", source.Of(l, source.Here), l, again)
	}
	shortest := source.Shortest(l)
	if again, _, errno := words.Here(shortest); !words.Same(l, again) || errno != api.OK || len(shortest) > len(s) {
		t.Fatalf("the source %q of %+v, which are the parts of %q, has the parts %+v", shortest, l, s, again)
	}
}

func TestHere(t *testing.T) {
	small.Each(strings.Split("$`\\(){}a#-\n1", ""), 5, func(s string) { checkHere(t, s) })
	small.Each([]string{"$", "\\", "`", "a", "\n", "}", "(", ")"}, 4, func(s string) {
		for _, around := range [][2]string{{"$((", "))"}, {"${x-", "}"}, {"$((${x-", "}))"}, {"${x-$((", "))}"}, {"`", "`"}, {"$(", ")"}, {"$((`", "`))"}, {"${#:?", "}b"}, {"$$x", "`#`"}} {
			checkHere(t, around[0]+s+around[1])
		}
	})
}

func TestOperator(t *testing.T) {
	want := map[int]string{api.OpDefault: "-", api.OpAssign: "=", api.OpError: "?", api.OpAlternative: "+", api.OpShortSuffix: "%", api.OpLongSuffix: "%%", api.OpShortPrefix: "#", api.OpLongPrefix: "##"}
	for op := -2; op < 12; op++ {
		if s := source.Operator(op); s != want[op] {
			t.Errorf("Operator(%d) is %q, want %q", op, s, want[op])
		}
	}
}

func TestCommand(t *testing.T) {
	for s, want := range map[string]bool{"": true, "a": true, "a)": false, ")": false, "a) (": false, "#": false, "#\n": true, "'": false, "(a": false, "(a)": false, "((a))": false, " (a)": true, "\\": false, "$(": false, "a\n": true} {
		if source.Command(s) != want {
			t.Errorf("Command(%q) is %v", s, !want)
		}
	}
}
