package words_test

import (
	"slices"
	"strings"
	"testing"

	"jobshell/api"
	"jobshell/words"
)

func text(s string) api.Part { return api.Part{Kind: api.PText, Text: s} }

func quoted(s string) api.Part { return api.Part{Kind: api.PQuoted, Text: s} }

func command(s string) api.Part { return api.Part{Kind: api.PCommand, Text: s} }

func double(l ...api.Part) api.Part { return api.Part{Kind: api.PDouble, Parts: l} }

func arith(l ...api.Part) api.Part { return api.Part{Kind: api.PArith, Parts: l} }

func param(s string) api.Part { return api.Part{Kind: api.PParam, Text: s} }

func length(s string) api.Part { return api.Part{Kind: api.PParam, Text: s, Op: api.OpLength} }

func with(s string, op int, l ...api.Part) api.Part {
	return api.Part{Kind: api.PParam, Text: s, Op: op, Parts: l}
}

func colon(s string, op int, l ...api.Part) api.Part {
	return api.Part{Kind: api.PParam, Text: s, Op: op, Colon: true, Parts: l}
}

var tilde = api.Part{Kind: api.PTilde}

const join = "\\\n"

type parts = []api.Part

// sources are words with their canonical source and their parts.
var sources = []struct {
	s, show string
	want    parts
}{
	{"", "", nil},
	{join, "", nil},
	{"a" + join + "b", "ab", parts{text("ab")}},
	{"#a=b{c}[d]!*?", "#a=b{c}[d]!*?", parts{text("#a=b{c}[d]!*?")}},
	{"é\x00\xff", "é\x00\xff", parts{text("é\x00\xff")}},
	{"'a b'\\c\\'\\ \\\"''", "'a b''c'\\'' ''\"'''", parts{quoted("a b"), quoted("c"), quoted("'"), quoted(" "), quoted("\""), quoted("")}},
	{"'" + join + "$x`'", "'" + join + "$x`'", parts{quoted(join + "$x`")}},
	{"\\é", "'\xc3'\xa9", parts{quoted("\xc3"), text("\xa9")}},
	{"\"\"", "\"\"", parts{double()}},
	{"\"" + join + "\"", "\"\"", parts{double()}},
	{"\"a'b; #c\n~\"", "\"a'b; #c\n~\"", parts{double(text("a'b; #c\n~"))}},
	{"\"\\$\\`\\\"\\\\\\a\\'\\}\"", "\"\\$\\`\\\"\\\\\\\\a\\\\'\\\\}\"", parts{double(text("$`\"\\\\a\\'\\}"))}},
	{"\"a" + join + "b$" + join + "x\"", "\"ab\\$x\"", parts{double(text("ab$x"))}},
	{"\"$ $' $/\"", "\"\\$ \\$' \\$/\"", parts{double(text("$ $' $/"))}},
	{"\"$`a`\"", "\"\\$$(a)\"", parts{double(text("$"), command("a"))}},
	{"$'a'$\"b\"$\\c$", "$'a'$\"b\"$'c'$", parts{text("$"), quoted("a"), text("$"), double(text("b")), text("$"), quoted("c"), text("$")}},
	{"$%$/$=$.", "$%$/$=$.", parts{text("$%$/$=$.")}},
	{"$a$b_1$_", "$a$b_1$_", parts{param("a"), param("b_1"), param("_")}},
	{"$@$*$#$?$-$$$!$0$9", "$@$*$#$?$-$$$!$0$9", parts{param("@"), param("*"), param("#"), param("?"), param("-"), param("$"), param("!"), param("0"), param("9")}},
	{"${@}${*}${#}${?}${-}${$}${!}${0}${9}", "$@$*$#$?$-$$$!$0$9", parts{param("@"), param("*"), param("#"), param("?"), param("-"), param("$"), param("!"), param("0"), param("9")}},
	{"$12$$a${12}3", "$12$$a${12}3", parts{param("1"), text("2"), param("$"), text("a"), param("12"), text("3")}},
	{"${x}a${x}1${x}_${x}-${x}$a${x}'a'", "${x}a${x}1${x}_$x-$x$a$x'a'", parts{param("x"), text("a"), param("x"), text("1"), param("x"), text("_"), param("x"), text("-"), param("x"), param("a"), param("x"), quoted("a")}},
	{"$x" + join + "y", "${x}y", parts{param("x"), text("y")}},
	{"\"${x}a${x}\"b", "\"${x}a$x\"b", parts{double(param("x"), text("a"), param("x")), text("b")}},
	{"${2147483647}", "${2147483647}", parts{param("2147483647")}},
	{"${#2147483647}${#x_1}${#@}${#*}${##}${#?}${#-}${#$}${#!}${#0}", "${#2147483647}${#x_1}${#@}${#*}${##}${#?}${#-}${#$}${#!}${#0}", parts{length("2147483647"), length("x_1"), length("@"), length("*"), length("#"), length("?"), length("-"), length("$"), length("!"), length("0")}},
	{"${x-}${x=}${x?}${x+}${x%}${x%%}${x#}${x##}", "${x-}${x=}${x?}${x+}${x%}${x%%}${x#}${x##}", parts{with("x", api.OpDefault), with("x", api.OpAssign), with("x", api.OpError), with("x", api.OpAlternative), with("x", api.OpShortSuffix), with("x", api.OpLongSuffix), with("x", api.OpShortPrefix), with("x", api.OpLongPrefix)}},
	{"${x:-}${x:=}${x:?}${x:+}", "${x:-}${x:=}${x:?}${x:+}", parts{colon("x", api.OpDefault), colon("x", api.OpAssign), colon("x", api.OpError), colon("x", api.OpAlternative)}},
	{"${x%%%}${x###}${x%#}${x#%}", "${x%%%}${x###}${x%#}${x#%}", parts{with("x", api.OpLongSuffix, text("%")), with("x", api.OpLongPrefix, text("#")), with("x", api.OpShortSuffix, text("#")), with("x", api.OpShortPrefix, text("%"))}},
	{"${#-x}${#--}${#?x}${##x}${###}${###x}${#:-x}${#%x}${#%%x}${#=x}${#+x}${#:?}", "${#-x}${#--}${#?x}${##x}${###}${###x}${#:-x}${#%x}${#%%x}${#=x}${#+x}${#:?}", parts{with("#", api.OpDefault, text("x")), with("#", api.OpDefault, text("-")), with("#", api.OpError, text("x")), with("#", api.OpShortPrefix, text("x")), with("#", api.OpLongPrefix), with("#", api.OpLongPrefix, text("x")), colon("#", api.OpDefault, text("x")), with("#", api.OpShortSuffix, text("x")), with("#", api.OpLongSuffix, text("x")), with("#", api.OpAssign, text("x")), with("#", api.OpAlternative, text("x")), colon("#", api.OpError)}},
	{"${--}${-:-x}${??}${$-$x}${$#$x}${!-x}${@%x}${10:=x}", "${--}${-:-x}${??}${$-$x}${$#$x}${!-x}${@%x}${10:=x}", parts{with("-", api.OpDefault), colon("-", api.OpDefault, text("x")), with("?", api.OpError), with("$", api.OpDefault, param("x")), with("$", api.OpShortPrefix, param("x")), with("!", api.OpDefault, text("x")), with("@", api.OpShortSuffix, text("x")), colon("10", api.OpAssign, text("x"))}},
	{"${x-a b\n;&|()<>#c}", "${x-a b\n;&|()<>#c}", parts{with("x", api.OpDefault, text("a b\n;&|()<>#c"))}},
	{"${x-a" + join + "b'}'\\}\"}\"$y`c`}", "${x-ab'}''}'\"}\"$y$(c)}", parts{with("x", api.OpDefault, text("ab"), quoted("}"), quoted("}"), double(text("}")), param("y"), command("c"))}},
	{"${x-{}}", "${x-{}}", parts{with("x", api.OpDefault, text("{")), text("}")}},
	{"\"${x-a 'b' \\\" \\} \\' ~}\"", "\"${x-a 'b' \\\" \\} \\\\' ~}\"", parts{double(with("x", api.OpDefault, text("a 'b' \" } \\' ~")))}},
	{"$((${x-\\\" \\} \" ' \\( (}))", "$((${x-\\\\\" \\} \" ' \\\\( (}))", parts{arith(with("x", api.OpDefault, text("\\\" } \" ' \\( (")))}},
	{"$(())$((()))", "$(())$((()))", parts{arith(), arith(text("()"))}},
	{"$((1 " + join + "+ (2)\n* $x \"'; # ~ \\\" \\} \\$ $ ))", "$((1 + (2)\n* $x \"'; # ~ \\\\\" \\\\} \\$ \\$ ))", parts{arith(text("1 + (2)\n* "), param("x"), text(" \"'; # ~ \\\" \\} $ $ "))}},
	{"$(( $(a) `b` $((1)) ${x} ))", "$(( $(a) $(b) $((1)) $x ))", parts{arith(text(" "), command("a"), text(" "), command("b"), text(" "), arith(text("1")), text(" "), param("x"), text(" "))}},
	{"\"$((\"))\"", "\"$((\"))\"", parts{double(arith(text("\"")))}},
	{"\"$((\\\"))\"", "\"$((\\\\\"))\"", parts{double(arith(text("\\\"")))}},
	{"$()$(a " + join + "'b)' # )\n)$( (c) )", "$()$(a " + join + "'b)' # )\n)$( (c) )", parts{command(""), command("a " + join + "'b)' # )\n"), command(" (c) ")}},
	{"`a \\`b\\` \\\\ \\$x \\\" \\a`", "$(a `b` \\ $x \\\" \\a)", parts{command("a `b` \\ $x \\\" \\a")}},
	{"``\"`a \"b\"`\"", "$()\"$(a \"b\")\"", parts{command(""), double(command("a \"b\""))}},
	{"`(a)``((1))``#``a\\\\`", "$( (a))$( ((1)))$(#\n)$(a" + join + ")", parts{command(" (a)"), command(" ((1))"), command("#\n"), command("a" + join)}},
	{"~", "~", parts{tilde}},
	{"~/", "~/", parts{tilde, text("/")}},
	{join + "~" + join + join, "~", parts{tilde}},
	{"~" + join + "/" + join + "~", "~/~", parts{tilde, text("/~")}},
	{"~a", "~a", parts{text("~a")}},
	{"~" + join + "a", "~a", parts{text("~a")}},
	{"a~", "a~", parts{text("a~")}},
	{"''~", "''~", parts{quoted(""), text("~")}},
	{"~'/'", "~'/'", parts{text("~"), quoted("/")}},
	{"~}", "~}", parts{text("~}")}},
	{"~~", "~~", parts{text("~~")}},
	{"\\~\"~\"", "'~'\"~\"", parts{quoted("~"), double(text("~"))}},
	{"${x-~}${x:=~/a}${x#~" + join + "}${x-~a}${x-a~}", "${x-~}${x:=~/a}${x#~}${x-~a}${x-a~}", parts{with("x", api.OpDefault, tilde), colon("x", api.OpAssign, tilde, text("/a")), with("x", api.OpShortPrefix, tilde), with("x", api.OpDefault, text("~a")), with("x", api.OpDefault, text("a~"))}},
}

func TestParse(t *testing.T) {
	for _, c := range sources {
		l, at, errno := words.Parse(c.s)
		if !equal(l, c.want) || at != 0 || errno != api.OK {
			t.Errorf("Parse(%q) is %+v, %d, %d, want %+v", c.s, l, at, errno, c.want)
		}
		if s, errno := words.Show(c.want); s != c.show || errno != api.OK {
			t.Errorf("Show of %q is %q, %d, want %q", c.s, s, errno, c.show)
		}
		if errno := words.Valid(c.want); errno != api.OK {
			t.Errorf("Valid of %q is %d", c.s, errno)
		}
	}
}

func TestParseErrors(t *testing.T) {
	long := strings.Repeat("n", api.MaxName+1)
	for _, c := range []struct {
		s     string
		at    int
		errno api.Errno
	}{
		{" ", 0, api.ErrSyntax}, {"a\tb", 1, api.ErrSyntax}, {"a\nb", 1, api.ErrSyntax}, {"a&", 1, api.ErrSyntax}, {"|a", 0, api.ErrSyntax}, {"''<a", 2, api.ErrSyntax}, {"$x>a", 2, api.ErrSyntax}, {"$(a)(b)", 4, api.ErrSyntax}, {"a)", 1, api.ErrSyntax}, {"a b'", 1, api.ErrSyntax}, {"~ ", 1, api.ErrSyntax},
		{"a$`b`", 1, api.ErrSyntax}, {"${x-$`b`}", 4, api.ErrSyntax}, {"a$" + join, 1, api.ErrSyntax}, {"${x-$" + join + "}", 4, api.ErrSyntax}, {"$`", 0, api.ErrSyntax}, {"$\\", 1, api.ErrIncomplete},
		{"${}", 2, api.ErrSyntax}, {"${ x}", 2, api.ErrSyntax}, {"${x }", 3, api.ErrSyntax}, {"${x!}", 3, api.ErrSyntax}, {"${!x}", 3, api.ErrSyntax}, {"${x@}", 3, api.ErrSyntax}, {"${x[1]}", 3, api.ErrSyntax}, {"${x/a/b}", 3, api.ErrSyntax}, {"${1x}", 3, api.ErrSyntax}, {"${01}", 3, api.ErrSyntax}, {"${00}", 3, api.ErrSyntax}, {"${-1}", 3, api.ErrSyntax}, {"${@@}", 3, api.ErrSyntax}, {"${$x}", 3, api.ErrSyntax}, {"${$(a}", 3, api.ErrSyntax}, {"${'x'}", 2, api.ErrSyntax}, {"${\"x\"}", 2, api.ErrSyntax}, {"\"${\"x\"}\"", 3, api.ErrSyntax}, {"${`x`}", 2, api.ErrSyntax}, {"${é}", 2, api.ErrSyntax},
		{"${2147483648}", 11, api.ErrSyntax}, {"${9999999999}", 11, api.ErrSyntax}, {"${21474836470}", 12, api.ErrSyntax}, {"${#2147483648}", 12, api.ErrSyntax},
		{"${x:}", 4, api.ErrSyntax}, {"${x:x}", 4, api.ErrSyntax}, {"${x::-a}", 4, api.ErrSyntax}, {"${x:%a}", 4, api.ErrSyntax}, {"${x:#a}", 4, api.ErrSyntax}, {"${x:" + join + "-a}", 4, api.ErrSyntax}, {"${" + join + "x}", 2, api.ErrSyntax}, {"${x" + join + "}", 3, api.ErrSyntax}, {"${:-x}", 2, api.ErrSyntax}, {"${%x}", 2, api.ErrSyntax}, {"${=x}", 2, api.ErrSyntax}, {"${+}", 2, api.ErrSyntax},
		{"${#x-}", 4, api.ErrSyntax}, {"${#x:-a}", 4, api.ErrSyntax}, {"${#$x}", 4, api.ErrSyntax}, {"${#${x}}", 4, api.ErrSyntax}, {"${#!x}", 4, api.ErrSyntax}, {"${#@@}", 4, api.ErrSyntax}, {"${#1a}", 4, api.ErrSyntax}, {"${#01}", 4, api.ErrSyntax}, {"${#:}", 4, api.ErrSyntax}, {"${#:%}", 4, api.ErrSyntax}, {"${#'}", 3, api.ErrSyntax}, {"${# }", 3, api.ErrSyntax}, {"${#" + join + "x}", 3, api.ErrSyntax}, {"${#x" + join + "}", 4, api.ErrSyntax}, {"${##" + join + "}", 4, api.ErrSyntax}, {"${#-" + join + "}", 4, api.ErrSyntax},
		{"${x-" + join + "a}", 4, api.ErrSyntax}, {"${x:=" + join + "a}", 5, api.ErrSyntax}, {"${x%" + join + "%}", 4, api.ErrSyntax}, {"${x##" + join + "}", 5, api.ErrSyntax}, {"\"${x-" + join + "a}\"", 5, api.ErrSyntax}, {"$((${x-" + join + "a}))", 7, api.ErrSyntax},
		{"$((\\(1))", 3, api.ErrSyntax}, {"$((1\\))", 4, api.ErrSyntax}, {"$(((\\)))", 4, api.ErrSyntax}, {"$((1) 2))", 4, api.ErrSyntax}, {"$((1)" + join + ")", 4, api.ErrSyntax}, {"$((${x-a} (1)) + 1", 13, api.ErrSyntax}, {"$((${x-)} (1) + 1", 0, api.ErrIncomplete}, {"\"$((1)\"", 5, api.ErrSyntax},
		{"\"${x-\"}\"", 5, api.ErrSyntax}, {"\"${x-${y-\"}}\"", 9, api.ErrSyntax}, {"\"$((${x-\"}))${x-\"}\"", 16, api.ErrSyntax}, {"${x-\"${y-'\\}\"}\"}", 12, api.ErrSyntax}, {"$(a \"${x-\"}\")", 9, api.ErrSyntax}, {"$(a $((1) 2)))", 8, api.ErrSyntax},
		{"a`b)`", 1, api.ErrSyntax}, {"`'`", 0, api.ErrSyntax}, {"`\"`", 0, api.ErrSyntax}, {"`(`", 0, api.ErrSyntax}, {"`a'b'\\`c`", 0, api.ErrSyntax}, {"\"`)`\"", 1, api.ErrSyntax}, {"$((`)`))", 3, api.ErrSyntax}, {"`${`", 0, api.ErrSyntax}, {"`$((1) )`", 0, api.ErrSyntax}, {"`a)\n(b`", 0, api.ErrSyntax}, {"`#)`)", 4, api.ErrSyntax},
		{"'a", 0, api.ErrIncomplete}, {"a\"b", 1, api.ErrIncomplete}, {"a\\", 1, api.ErrIncomplete}, {"\"a\\", 2, api.ErrIncomplete}, {"`a", 0, api.ErrIncomplete}, {"`a\\", 2, api.ErrIncomplete}, {"$(a", 0, api.ErrIncomplete}, {"$(a #)", 0, api.ErrIncomplete}, {"$(a 'b", 4, api.ErrIncomplete}, {"$((1", 0, api.ErrIncomplete}, {"$((1)", 0, api.ErrIncomplete}, {"$((1\\", 4, api.ErrIncomplete}, {"$((1$(", 4, api.ErrIncomplete},
		{"${", 0, api.ErrIncomplete}, {"${x", 0, api.ErrIncomplete}, {"${#", 0, api.ErrIncomplete}, {"${#x", 0, api.ErrIncomplete}, {"${#-", 0, api.ErrIncomplete}, {"${##", 0, api.ErrIncomplete}, {"${#?", 0, api.ErrIncomplete}, {"${###", 0, api.ErrIncomplete}, {"${x:", 0, api.ErrIncomplete}, {"${x:-", 0, api.ErrIncomplete}, {"${x-a", 0, api.ErrIncomplete}, {"${x-\\", 4, api.ErrIncomplete}, {"${x-~", 0, api.ErrIncomplete}, {"a\"${x", 2, api.ErrIncomplete}, {"\"${x-\\", 5, api.ErrIncomplete}, {"${x-\"a\"'", 7, api.ErrIncomplete}, {"\"${x-'", 1, api.ErrIncomplete}, {"\"${x-$((${y-", 8, api.ErrIncomplete}, {"\"${x!", 4, api.ErrSyntax},
		{"a$" + long, 1, api.ErrTooLong}, {"${" + long + "}", 2, api.ErrTooLong}, {"${#" + long + "}", 3, api.ErrTooLong}, {"\"${" + long, 3, api.ErrTooLong}, {"${" + long + "!}", 2, api.ErrTooLong}, {"${#" + long + "!", 3, api.ErrTooLong}, {"${x-$" + long + "}", 4, api.ErrTooLong}, {"$((" + "$" + long + ") ))", 3, api.ErrTooLong}, {" $" + long, 0, api.ErrSyntax}, {"${#" + long, 3, api.ErrTooLong},
	} {
		if l, at, errno := words.Parse(c.s); len(l) != 0 || at != c.at || errno != c.errno {
			t.Errorf("Parse(%q) is %+v, %d, %d, want %d, %d", c.s, l, at, errno, c.at, c.errno)
		}
	}
	name := long[1:]
	for _, s := range []string{"$" + name, "${" + name + "}", "${#" + name + "}", "${" + name + ":-x}", "$" + name + "-n"} {
		if l, _, errno := words.Parse(s); len(l) == 0 || l[0].Text != name || errno != api.OK {
			t.Errorf("Parse(%q) is %+v, %d", s, l, errno)
		}
	}
}

func TestHere(t *testing.T) {
	for _, c := range []struct {
		s    string
		want parts
	}{
		{"", nil}, {join, nil}, {"a b\n'c' \"d\"; #e | (f) ~ ~/\n", parts{text("a b\n'c' \"d\"; #e | (f) ~ ~/\n")}},
		{"\\$x \\`a\\` \\\\ \\\" \\} \\( \\'", parts{text("$x `a` \\ \\\" \\} \\( \\'")}}, {"a\\", parts{text("a\\")}}, {"\\\\", parts{text("\\")}}, {"$" + join + "x $", parts{text("$x $")}}, {"$`a`", parts{text("$"), command("a")}},
		{"\"$x\" '${y}' `a \\`b\\`` $(c) $((1))", parts{text("\""), param("x"), text("\" '"), param("y"), text("' "), command("a `b`"), text(" "), command("c"), text(" "), arith(text("1"))}},
		{"${x-\"a\" 'b' \\\" \\} ~ $`c`}", parts{with("x", api.OpDefault, text("\"a\" 'b' \\\" } ~ $"), command("c"))}},
		{"))", parts{text("))")}},
	} {
		if l, at, errno := words.Here(c.s); !equal(l, c.want) || at != 0 || errno != api.OK {
			t.Errorf("Here(%q) is %+v, %d, %d, want %+v", c.s, l, at, errno, c.want)
		}
	}
	for _, c := range []struct {
		s     string
		at    int
		errno api.Errno
	}{
		{"a ${", 2, api.ErrIncomplete}, {"'${x-a", 1, api.ErrIncomplete}, {"`", 0, api.ErrIncomplete}, {"$(a \"", 4, api.ErrIncomplete}, {"$(a\\", 3, api.ErrIncomplete}, {"`\\", 1, api.ErrIncomplete}, {" ${x!}", 4, api.ErrSyntax}, {"`)`", 0, api.ErrSyntax}, {"$((1) 2))", 4, api.ErrSyntax}, {"$((\\(1))", 3, api.ErrSyntax}, {"${x-" + join + "}", 4, api.ErrSyntax}, {"a $" + strings.Repeat("n", api.MaxName+1), 2, api.ErrTooLong}, {strings.Repeat("${x-", api.MaxDepth), 127, api.ErrDepth},
	} {
		if l, at, errno := words.Here(c.s); len(l) != 0 || at != c.at || errno != c.errno {
			t.Errorf("Here(%q) is %+v, %d, %d, want %d, %d", c.s, l, at, errno, c.at, c.errno)
		}
	}
}

func TestTextLimit(t *testing.T) {
	for name, parse := range map[string]func(s string) (parts, int, api.Errno){"Parse": words.Parse, "Here": words.Here} {
		s := strings.Repeat("a", api.MaxText)
		if l, at, errno := parse(s); !equal(l, parts{text(s)}) || at != 0 || errno != api.OK {
			t.Errorf("%s of the longest text is %d parts, %d, %d", name, len(l), at, errno)
		}
		for _, s := range []string{s + "a", s + " ", " " + s, strings.Repeat("$(", api.MaxText)} {
			if l, at, errno := parse(s); len(l) != 0 || at != 0 || errno != api.ErrTooLong {
				t.Errorf("%s is %d parts, %d, %d", name, len(l), at, errno)
			}
		}
	}
	long := strings.Repeat("a", api.MaxText-4)
	for s, want := range map[string]api.Errno{long: api.OK, long + "a": api.OK, long + "aaa": api.ErrInvalid} {
		if shown, errno := words.Show(parts{command(s)}); errno != want || (errno == api.OK) != (shown == "$("+s+")") {
			t.Errorf("Show is %d bytes, %d, want %d", len(shown), errno, want)
		}
	}
}

// nest returns parts in others at several levels.
func nest(levels int, around func(l parts) api.Part, inner ...api.Part) parts {
	for range levels {
		inner = parts{around(inner)}
	}
	return inner
}

func TestDepth(t *testing.T) {
	for _, c := range []struct {
		open, end string
		offset    int // of the error in open
		around    func(l parts) api.Part
	}{
		{"$((", "))", 0, func(l parts) api.Part { return arith(l...) }},
		{"${x-", "}", 3, func(l parts) api.Part { return with("x", api.OpDefault, l...) }},
		{"${xy:=", "}", 4, func(l parts) api.Part { return colon("xy", api.OpAssign, l...) }},
		{"${1%%", "}", 3, func(l parts) api.Part { return with("1", api.OpLongSuffix, l...) }},
		{"${##$1", "}", 3, func(l parts) api.Part {
			return with("#", api.OpShortPrefix, append(parts{param("1")}, l...)...)
		}},
	} {
		most := api.MaxDepth - 1
		for _, in := range []string{"a", "$a", "${#a}", "$(a)", "`a`", "${a}"} {
			l, _, _ := words.Parse(in)
			s := strings.Repeat(c.open, most) + in + strings.Repeat(c.end, most)
			if got, _, errno := words.Parse(s); !equal(got, nest(most, c.around, l...)) || errno != api.OK {
				t.Errorf("Parse(%q) is %+v, %d", s, got, errno)
			}
			if errno := words.Valid(nest(most, c.around, l...)); errno != api.OK {
				t.Errorf("Valid for %q is %d", s, errno)
			}
			if errno := words.Valid(nest(most+1, c.around, l...)); errno != api.ErrInvalid {
				t.Errorf("Valid for %q in one more is %d", s, errno)
			}
		}
		for _, end := range []string{"", "a", "(", "\\", " \"", strings.Repeat(c.end, most+1), join} {
			s := "a" + strings.Repeat(c.open, most+1) + end
			if l, at, errno := words.Parse(s); len(l) != 0 || at != 1+most*len(c.open)+c.offset || errno != api.ErrDepth {
				t.Errorf("Parse(%q) is %+v, %d, %d", s, l, at, errno)
			}
		}
	}
	deep := strings.Repeat("${x-", api.MaxDepth-1)
	for s, errno := range map[string]api.Errno{"\"": api.ErrDepth, "\"\"": api.ErrDepth, "$((": api.ErrDepth, "${x-": api.OK, "${#-": api.OK, "${x:": api.OK, "${x:%": api.ErrSyntax} {
		want, at := errno, len(deep)
		switch s {
		case "${x-":
			want, at = api.ErrDepth, at+3
		case "${#-", "${x:":
			want = api.ErrIncomplete
		case "${x:%":
			at += 4
		}
		if l, n, errno := words.Parse(deep + s); len(l) != 0 || n != at || errno != want {
			t.Errorf("Parse(%q) is %+v, %d, %d, want %d, %d", deep+s, l, n, errno, at, want)
		}
	}
	mixed := "\"" + strings.Repeat("$((${x-", 15)
	ends := strings.Repeat("}))", 15) + "\""
	if _, _, errno := words.Parse(mixed + "$y" + ends); errno != api.OK {
		t.Errorf("Parse of %d levels is %d", api.MaxDepth, errno)
	}
	if _, at, errno := words.Parse(mixed + "$((1))" + ends); at != len(mixed) || errno != api.ErrDepth {
		t.Errorf("Parse of one level more is %d, %d", at, errno)
	}
}

// grow returns parts of all kinds that contain those of lists.
func grow(lists []parts) []api.Part {
	l := parts{tilde, {Kind: 0}, {Kind: 8}, {Kind: -1}, {Kind: api.PTilde, Text: "a"}, {Kind: api.PQuoted, Text: "a", Op: 1}}
	for _, s := range []string{"", "a", "a b", "~", "}", "$", "`", "\\", "'", "\"", "1", "$x", "#", "(", ")", "a'b", "a\nb", "a)", "12", "01", "@", "-", "//", join, "/", strings.Repeat("n", api.MaxName+1)} {
		l = append(l, text(s), quoted(s), command(s), param(s), length(s))
	}
	for _, inner := range lists {
		l = append(l, double(inner...), arith(inner...), api.Part{Kind: api.PText, Text: "a", Parts: inner}, api.Part{Kind: api.PCommand, Parts: inner}, api.Part{Kind: api.PParam, Text: "x", Parts: inner}, api.Part{Kind: api.PParam, Text: "x", Colon: true, Parts: inner})
		for op := -1; op <= 10; op++ {
			l = append(l, with("x", op, inner...), with("#", op, inner...))
			l = append(l, colon("x", op, inner...))
		}
	}
	return l
}

// TestValid compares Valid and Show with their definition.
func TestValid(t *testing.T) {
	first := grow([]parts{nil, {text("a")}, {text("%")}, {tilde}, {quoted("a")}, {text("}")}, {text("$x\"`\\'")}, {text("(")}, {text("()")}, {param("x"), text("y")}, {text(""), text("a")}})
	var lists []parts
	for _, a := range first {
		lists = append(lists, parts{a})
	}
	for _, a := range grow(lists) {
		checkValid(t, parts{a})
	}
	for _, a := range first {
		for _, b := range first {
			checkValid(t, parts{a, b})
		}
	}
}

func checkValid(t *testing.T, l parts) {
	t.Helper()
	want, source := api.ErrInvalid, show(l, "")
	if parsed, _, errno := parse(source, 'w'); errno == api.OK && equal(parsed, l) {
		want = api.OK
	} else {
		source = ""
	}
	s, errno := words.Show(l)
	if s != source || errno != want || words.Valid(l) != want {
		t.Fatalf("Show(%+v) is %q, %d, want %q, %d", l, s, errno, source, want)
	}
}

func TestSame(t *testing.T) {
	var all []parts
	for _, a := range grow([]parts{nil, {text("a")}, {text("a"), param("x")}, {double(text("a"))}, {double(text("b"))}}) {
		all = append(all, parts{a}, parts{a, a}, parts{text("a"), a})
	}
	all = append(all, nil, parts{})
	for _, a := range all {
		for _, b := range all {
			if want := equal(a, b); words.Same(a, b) != want {
				t.Fatalf("Same(%+v, %+v) is %v", a, b, !want)
			}
		}
	}
}

func TestLiteral(t *testing.T) {
	for _, c := range []struct {
		l    parts
		want string
		ok   bool
	}{
		{nil, "", true}, {parts{text("a"), quoted("b c"), double(text("d"), text("e")), quoted("")}, "ab cde", true}, {parts{double()}, "", true},
		{parts{param("x")}, "", false}, {parts{tilde}, "", false}, {parts{text("a"), command("b")}, "", false}, {parts{text("a"), arith(text("1"))}, "", false}, {parts{text("a"), length("x")}, "", false}, {parts{text("a"), double(text("b"), param("x"))}, "", false}, {parts{double(text("a")), double(arith()), text("b")}, "", false}, {parts{double(command("a"))}, "", false},
		{parts{double(quoted("a"))}, "", false}, {parts{double(double())}, "", false}, {parts{{Kind: 9}}, "", false},
	} {
		if s, ok := words.Literal(c.l); s != c.want || ok != c.ok {
			t.Errorf("Literal(%+v) is %q, %v", c.l, s, ok)
		}
	}
}

func TestQuoted(t *testing.T) {
	for _, c := range []struct {
		s    string
		want bool
	}{
		{"", false}, {"a", false}, {"~/a", false}, {"$x$(a 'b')$((1))`'c'`", false}, {"${x-'a'}", false}, {"${x-\"a\"}", false}, {"a" + join, false},
		{"''", true}, {"\"\"", true}, {"a\\b", true}, {"$x'a'", true}, {"$(a)\"$x\"", true},
	} {
		l, _, errno := words.Parse(c.s)
		if words.Quoted(l) != c.want || errno != api.OK {
			t.Errorf("Quoted of %q is %v", c.s, !c.want)
		}
	}
}

func TestLists(t *testing.T) {
	for _, c := range []struct {
		s                string
		commands, params string
	}{
		{"", "", ""}, {"a'$x$(b)'\\$c~", "", ""}, {"$(a $(b))`c \\`d\\``", "a $(b)|c `d`", ""}, {"$x${#y}${z}${x}", "", "x|y|z|x"},
		{"${x-$(a)\"$y${z:=$1$(b)}\"}$(c)$((i+$j*$(d)+${k-$((l+$m))}))$n", "a|b|c|d", "x|y|z|1|j|k|m|n"},
		{"\"$@ $* $(a) `b`\"$#$(c)", "a|b|c", "@|*|#"}, {"${x%$(a)$y}$(b)$z", "a|b", "x|y|z"},
	} {
		l, _, errno := words.Parse(c.s)
		if s := strings.Join(words.Commands(l), "|"); s != c.commands || errno != api.OK {
			t.Errorf("Commands of %q are %q", c.s, s)
		}
		if s := strings.Join(words.Params(l), "|"); s != c.params {
			t.Errorf("Params of %q are %q", c.s, s)
		}
	}
	if l := words.Commands(parts{command(""), double(command(""))}); !slices.Equal(l, []string{"", ""}) {
		t.Errorf("Commands are %q", l)
	}
}

// TestArguments checks that arguments remain unchanged and are not retained.
func TestArguments(t *testing.T) {
	l := parts{with("x", api.OpDefault, text("a"), double(param("y"))), command("b"), {}}
	arg := l[:2:2]
	want, _ := words.Show(arg)
	for range 2 {
		words.Same(arg, arg)
		words.Valid(arg)
		words.Literal(arg)
		words.Quoted(arg)
		words.Commands(arg)
		words.Params(arg)
	}
	if s, _ := words.Show(arg); s != want || !equal(l[2:], parts{{}}) {
		t.Errorf("the parts have changed to %+v", l)
	}
	commands := words.Commands(arg)
	commands[0] = "c"
	if !equal(arg, parts{with("x", api.OpDefault, text("a"), double(param("y"))), command("b")}) {
		t.Errorf("the parts have changed to %+v", arg)
	}
}
