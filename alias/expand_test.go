package alias_test

import (
	"slices"
	"strings"
	"testing"

	"jobshell/alias"
	"jobshell/api"
)

func checkExpand(t *testing.T, s string, l []api.Alias, want string, wantErrno api.Errno) {
	t.Helper()
	copied, memory := withSpare(l)
	if got, errno := alias.Expand(s, copied); got != want || errno != wantErrno {
		t.Errorf("Expand(%.80q) is %.80q, %d, want %.80q, %d", s, got, errno, want, wantErrno)
	}
	checkMemory(t, l, memory, nil, api.OK)
}

// common is aliases for ordinary programs.
var common = fromMap(map[string]string{"a": "b c", "b": "a d", "e": "echo", "ll": "ls -l", "sudo": "sudo ", "none": "", "blank": " ", "2": "two", "tab": "x\t", "nl": "x\n", "g": "grep -v", "..": "cd ..", "-": "minus"})

func TestCommandPosition(t *testing.T) {
	for s, want := range map[string]string{
		"":              "",
		"ll":            "ls -l",
		" \tll ":        " \tls -l ",
		"\nll":          "\nls -l",
		"ll a; echo ll": "ls -l a; echo ll",
		"x\nll":         "x\nls -l",
		"x;ll":          "x;ls -l",
		"x&ll":          "x&ls -l",
		"x&&ll":         "x&&ls -l",
		"x||ll":         "x||ls -l",
		"x|ll|ll":       "x|ls -l|ls -l",
		"(ll)":          "(ls -l)",
		"x;;ll":         "x;;ll",
		"x) ll":         "x) ll",
		">f ll":         ">f ll",
		"<ll":           "<ll",
		"x >ll":         "x >ll",
		"2>ll ll":       "2>ll ll",
		"2 >f":          "two >f",
		"2>f":           "2>f",
		"2\\\n>f":       "2\\\n>f",
		"x=1 ll":        "x=1 ll",
		"..;-":          "cd ..;minus",
		"f() ll":        "f() ll",
		"f() { ll; }":   "f() { ll; }",
		"ll ll":         "ls -l ll",
		"ll&":           "ls -l&",
		"ll<f":          "ls -l<f",
		"ll\\\n":        "ll\\\n",
		"\\\nll":        "\\\nls -l",
		"l\\\nl":        "l\\\nl",
		"# ll\nll # ll": "# ll\nls -l # ll",
		"ll#":           "ll#",
	} {
		checkExpand(t, s, common, want, api.OK)
	}
}

func TestReservedWords(t *testing.T) {
	for _, word := range strings.Fields(reservedWords) {
		want := word + " ll"
		if slices.Contains(strings.Fields("! { do elif else if then until while"), word) {
			want = word + " ls -l"
		}
		checkExpand(t, word+" ll", common, want, api.OK)
		checkExpand(t, "x "+word+" ll", common, "x "+word+" ll", api.OK)
		checkExpand(t, word+"\tll\n"+word+" \\\nll", common, strings.Replace(want, " ", "\t", 1)+"\n"+strings.Replace(want, " ", " \\\n", 1), api.OK)
		checkExpand(t, word+"\\\n ll", common, word+"\\\n ll", api.OK)
		checkExpand(t, "'"+word+"' ll", common, "'"+word+"' ll", api.OK)
		checkExpand(t, word+"\\\n", common, word+"\\\n", api.OK)
	}
	for s, want := range map[string]string{
		"if ll; then ll; elif ll; then ll; else ll; fi; ll": "if ls -l; then ls -l; elif ls -l; then ls -l; else ls -l; fi; ls -l",
		"while ! ll\ndo ll\ndone":                           "while ! ls -l\ndo ls -l\ndone",
		"for i in ll; do ll; done ll":                       "for i in ll; do ls -l; done ll",
		"for i do ll; done":                                 "for i do ll; done",
		"case ll in ll) ll;; (ll|ll) x; ll;; esac":          "case ll in ll) ll;; (ls -l|ls -l) x; ls -l;; esac",
		"{ ll; } ll":    "{ ls -l; } ll",
		"! ! ll":        "! ! ls -l",
		"echo if ll":    "echo if ll",
		"echo if if ll": "echo if if ll",
		"then do ll":    "then do ls -l",
		"else fi ll":    "else fi ll",
		"i\\f ll":       "i\\f ll",
	} {
		checkExpand(t, s, common, want, api.OK)
	}
}

func TestSources(t *testing.T) {
	for s, want := range map[string]string{
		"'ll'; \"ll\"; \\ll; l'l'": "'ll'; \"ll\"; \\ll; l'l'",
		"$(ll); `ll`; ${ll}; $ll":  "$(ll); `ll`; ${ll}; $ll",
		"lll; l; LL":               "lll; l; LL",
		"ll/":                      "ll/",
		"~ll":                      "~ll",
	} {
		checkExpand(t, s, common, want, api.OK)
	}
}

// TestValues checks what is substituted in values and after them.
func TestValues(t *testing.T) {
	for s, want := range map[string]string{
		"a":                "a d c",
		"b":                "b c d",
		"a; b":             "a d c; b c d",
		"a a":              "a d c a",
		"sudo ll":          "sudo  ls -l",
		"sudo sudo ll":     "sudo  sudo  ls -l",
		"sudo x ll":        "sudo  x ll",
		"sudo >f ll":       "sudo  >f ll",
		"sudo if ll":       "sudo  if ls -l",
		"sudo \\\n#ll\nll": "sudo  \\\n#ll\nls -l",
		"tab ll":           "x\t ls -l",
		"nl ll":            "x\n ls -l",
		"none ll":          " ls -l",
		"none none ll x":   "  ls -l x",
		"none;ll":          ";ls -l",
		"none":             "",
		"blank ll":         "  ls -l",
		"blank 2>x ll":     "  2>x ll",
		"sudo none ll x":   "sudo   ls -l x",
		"g e":              "grep -v e",
	} {
		checkExpand(t, s, common, want, api.OK)
	}
	for _, c := range []struct {
		s       string
		aliases map[string]string
		want    string
	}{
		{"a c", map[string]string{"a": "b ", "b": "x", "c": "y"}, "x  y"},
		{"a c", map[string]string{"a": "b", "b": "x ", "c": "y"}, "x  y"},
		{"a c", map[string]string{"a": "b", "b": "x", "c": "y"}, "x c"},
		{"a c d", map[string]string{"a": "b ", "b": "x ", "c": "y", "d": "z"}, "x   y d"},
		{"a c d", map[string]string{"a": "b ", "b": "x", "c": "y ", "d": "z"}, "x  y  z"},
		{"a c", map[string]string{"a": "b c ", "b": "x ", "c": "a"}, "x  a  x  c "},
		{"a b", map[string]string{"a": "a ", "b": "a"}, "a  a "},
		{"a;b", map[string]string{"a": "b;a", "b": "a;b"}, "a;b;a;b;a;b"},
		{"a", map[string]string{"a": "b", "b": "c", "c": "a"}, "a"},
		{"a", map[string]string{"a": "b ", "b": ""}, " "},
		{"a a", map[string]string{"a": "b ", "b": ""}, "   "},
		{"a b c", map[string]string{"a": "", "b": "", "c": ""}, "  "},
		{"a b", map[string]string{"a": "x \\ ", "b": "y"}, "x \\  y"},
		{"a b", map[string]string{"a": "x\\", "b": "y"}, "x\\ b"},
		{"a b' c", map[string]string{"a": "x 'y ", "c": "z"}, "x 'y  b' z"},
		{"a b' c d", map[string]string{"a": "x 'y ", "c": "z", "d": "w"}, "x 'y  b' z d"},
		{"a x\nb", map[string]string{"a": "#", "b": "y"}, "# x\ny"},
		{"a b\nc", map[string]string{"a": "x # ", "b": "y", "c": "z"}, "x #  b\nz"},
		{"a>b c", map[string]string{"a": "> ", "b": "x", "c": "y"}, "> >b c"},
		{"a>b c", map[string]string{"a": "x >", "b": "x", "c": "y"}, "x >>b c"},
		{"a&b", map[string]string{"a": "&", "b": "x"}, "&&x"},
		{"a\nb", map[string]string{"a": "x\\", "b": "y"}, "x\\\nb"},
		{"a b", map[string]string{"a": "if", "b": "x"}, "if x"},
		{"a b", map[string]string{"a": "x; if", "b": "y"}, "x; if y"},
		{"a b", map[string]string{"a": "x if", "b": "y"}, "x if b"},
		{"a b", map[string]string{"a": "x;", "b": "y"}, "x; y"},
		{"a b", map[string]string{"a": "x 'y'", "b": "y"}, "x 'y' b"},
	} {
		checkExpand(t, c.s, fromMap(c.aliases), c.want, api.OK)
	}
}

func TestHereDocuments(t *testing.T) {
	extra := map[string]string{"h": "cat << ", "d": "cat <<E", "n": "cat <<E\ne\nE\n", "w": "cat <<E ", "open": "cat <"}
	for s, want := range map[string]string{
		"cat <<e; e\ne\ne x":                   "cat <<e; echo\ne\necho x",
		"cat << e; e\nx\ne\ne x":               "cat << e; echo\nx\ne\necho x",
		"cat <<E\ne\n\te\nE\ne":                "cat <<E\ne\n\te\nE\necho",
		"cat <<-E\ne\n\t\tE\ne":                "cat <<-E\ne\n\t\tE\necho",
		"cat <<E\ne\n\tE\ne":                   "cat <<E\ne\n\tE\ne",
		"cat <<'\tE'\ne\n\tE\ne":               "cat <<'\tE'\ne\n\tE\necho",
		"cat <<-'\tE'\ne\n\tE\ne":              "cat <<-'\tE'\ne\n\tE\ne",
		"cat <<-\\E\ne\nE\ne":                  "cat <<-\\E\ne\nE\necho",
		"cat <<E\\\nF\ne\nEF\ne":               "cat <<E\\\nF\ne\nEF\necho",
		"cat <<\"E 'F\" <<G\ne\nE 'F\ne\nG\ne": "cat <<\"E 'F\" <<G\ne\nE 'F\ne\nG\necho",
		"cat <<E <<E\ne\nE\ne\nE\ne":           "cat <<E <<E\ne\nE\ne\nE\necho",
		"cat <<E\ne":                           "cat <<E\ne",
		"cat <<E <<F\ne\nF\ne":                 "cat <<E <<F\ne\nF\ne",
		"cat <<''\ne\n\ne":                     "cat <<''\ne\n\necho",
		"cat <<'E\nF'\ne\nE\nF\ne":             "cat <<'E\nF'\ne\nE\nF\ne",
		"cat <<$E\ne\n$E\ne":                   "cat <<$E\necho\n$E\necho",
		"cat <<~\ne\n~":                        "cat <<~\necho\n~",
		"cat <<$`x`\ne\n":                      "cat <<$`x`\necho\n",
		"cat <<\ne\ne\ne":                      "cat <<\necho\necho\necho",
		"cat <<;E\ne\nE":                       "cat <<;E\necho\nE",
		"cat << <<E\ne\nE\ne":                  "cat << <<E\ne\nE\necho",
		"cat <<2>f\ne\n2\ne":                   "cat <<2>f\necho\ntwo\necho",
		"cat <<2 >f\ne\n2\ne":                  "cat <<2 >f\ne\n2\necho",
		"cat <<\\\nE\ne\nE\ne":                 "cat <<\\\nE\ne\nE\necho",
		"cat <<E #<<F\ne\nE\ne":                "cat <<E #<<F\ne\nE\necho",
		"cat <<E; x '\n'\ne\nE\ne":             "cat <<E; x '\n'\ne\nE\necho",
		"cat '<<E' \\<<E\ne\nE":                "cat '<<E' \\<<E\necho\nE",
		"$(cat <<E)\ne":                        "$(cat <<E)\necho",
		"x <E\ne":                              "x <E\necho",
		"x <<<E\ne\nE\ne":                      "x <<<E\necho\nE\necho",
		"cat <<E\nE\n\n \ne":                   "cat <<E\nE\n\n \necho",
		"cat <<E\n'\nE\ne":                     "cat <<E\n'\nE\necho",
		"cat <<E\ne\nE\ne <<F\ne\nF\ne":        "cat <<E\ne\nE\necho <<F\ne\nF\necho",
		"h e\ne\necho\ne":                      "cat <<  echo\ne\necho\necho",
		"h ll\ne\nls\ne":                       "cat <<  ls -l\ne\nls\necho",
		"h none E\ne\nE\ne":                    "cat <<   E\ne\nE\necho",
		"h none\ne":                            "cat <<  \necho",
		"d; e\ne\nE\ne":                        "cat <<E; echo\ne\nE\necho",
		"d e\ne\nE\ne":                         "cat <<E e\ne\nE\necho",
		"w e\ne\nE\ne":                         "cat <<E  echo\ne\nE\necho",
		"n e":                                  "cat <<E\ne\nE\n echo",
		"open<E e\ne\nE\ne":                    "cat <<E e\ne\nE\necho",
	} {
		l := common
		for name, value := range extra {
			l, _ = alias.Set(l, name, value)
		}
		checkExpand(t, s, l, want, api.OK)
	}
	// The value ends within the contents.
	checkExpand(t, "h b\nc\nE\nb c", fromMap(map[string]string{"h": "cat <<E\nb ", "b": "x", "c": "y"}), "cat <<E\nb  b\nc\nE\nx c", api.OK)
}

// TestEnds checks that what follows an error of the tokens remains.
func TestEnds(t *testing.T) {
	for s, want := range map[string]string{
		"ll 'x; ll":           "ls -l 'x; ll",
		"'x; ll":              "'x; ll",
		"ll; \"ll\nll":        "ls -l; \"ll\nll",
		"ll; $((1) 2)); ll":   "ls -l; $((1) 2)); ll",
		"ll; \"${x-\"}\"; ll": "ls -l; \"${x-\"}\"; ll",
		"ll; `ll":             "ls -l; `ll",
		"ll; \\":              "ls -l; \\",
		"ll 'x\nll'; ll":      "ls -l 'x\nll'; ls -l",
	} {
		checkExpand(t, s, common, want, api.OK)
	}
	checkExpand(t, "a b", fromMap(map[string]string{"a": "c '", "b": "x", "c": "y"}), "y ' b", api.OK)
}

func TestExpandErrors(t *testing.T) {
	long := strings.Repeat("x", api.MaxText+1)
	word := strings.Repeat("v", api.MaxWord)
	checkExpand(t, long[1:], common, long[1:], api.OK)
	checkExpand(t, long, nil, "", api.ErrTooLong)
	checkExpand(t, "x", many(api.MaxAliases), "x", api.OK)
	checkExpand(t, long, many(api.MaxAliases+1), "", api.ErrLimit)
	checkExpand(t, long, []api.Alias{{Name: "if"}}, "", api.ErrName)
	checkExpand(t, "a", []api.Alias{{Name: "a", Value: word + "v"}}, "", api.ErrTooLong)
	checkExpand(t, "", []api.Alias{{Name: "b"}, {Name: "a"}}, "", api.ErrInvalid)
	checkExpand(t, "a", []api.Alias{{Name: "a", Value: word}}, word, api.OK)

	// The string itself has the bytes that are not in a value.
	rest := func(size int) string { return ";" + strings.Repeat("x", size-1) }
	four := []api.Alias{{Name: "a", Value: word}, {Name: "b", Value: "a"}, {Name: "c"}, {Name: "d", Value: "c;c;c;b"}}
	checkExpand(t, "a"+rest(api.MaxText-api.MaxWord), four, word+rest(api.MaxText-api.MaxWord), api.OK)
	checkExpand(t, "a"+rest(api.MaxText-api.MaxWord+1), four, "", api.ErrTooLong)
	checkExpand(t, "b"+rest(api.MaxText-api.MaxWord+1), four, "", api.ErrTooLong)
	checkExpand(t, "c"+rest(api.MaxText-1), four, rest(api.MaxText-1), api.OK)
	checkExpand(t, "c"+rest(api.MaxText), four, "", api.ErrTooLong)
	// The string is too long between two substitutions.
	checkExpand(t, "d"+rest(api.MaxText-6), []api.Alias{{Name: "c"}, {Name: "d", Value: "c c c "}}, "   "+rest(api.MaxText-6), api.OK)
	checkExpand(t, "d"+rest(api.MaxText-5), []api.Alias{{Name: "c"}, {Name: "d", Value: "c c c "}}, "", api.ErrTooLong)
}

// TestManySubstitutions checks chains of all aliases, and doubling that leads to a text that is too long.
func TestManySubstitutions(t *testing.T) {
	chain, doubles := many(api.MaxAliases), many(api.MaxAliases)
	for i := range chain {
		next := ""
		if i+1 < len(chain) {
			next = chain[i+1].Name
		}
		chain[i].Value = next
		doubles[i].Value = next + " " + next + " "
	}
	checkExpand(t, strings.Repeat("n100;", 200), chain, strings.Repeat(";", 200), api.OK)
	checkExpand(t, "n100", doubles, "", api.ErrTooLong)
	checkExpand(t, "n163", doubles, "  ", api.OK)
	checkExpand(t, "n161", doubles, strings.Repeat(" ", 14), api.OK)
}

func TestIdentity(t *testing.T) {
	for _, s := range []string{"", "x", "ll", "if ll; then 'x", "cat <<E\nx\nE\nll", "a\\\nb # c\n", "\x00\xff"} {
		checkExpand(t, s, nil, s, api.OK)
		checkExpand(t, s, []api.Alias{{Name: "zz", Value: "no"}}, s, api.OK)
	}
}
