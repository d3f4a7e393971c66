package words_test

import (
	"regexp"
	"strings"
	"testing"

	"jobshell/api"
	"jobshell/lexer"
	"jobshell/small"
	"jobshell/words"
)

// The tests of this file compare the functions with an automaton that has a stack of the parts that are open, and reads one byte or construct after the other.

// open is a part that is open. Its kind is the byte that is characteristic for it: " or + (arithmetic expansion), { for a braced parameter, w for a word and h for a here-document. Its mode is the kind of the innermost one that is not a braced parameter.
type open struct {
	kind, mode byte
	at, depth  int
	part       api.Part
}

type automaton struct {
	s     string
	at    int
	stack []open
}

// problem is an error that the automaton finds.
type problem struct {
	at    int
	errno api.Errno
}

func (a *automaton) top() *open { return &a.stack[len(a.stack)-1] }

func (a *automaton) has(prefix string) bool { return strings.HasPrefix(a.s[a.at:], prefix) }

// text adds literal text of some bytes, after others that are dropped.
func (a *automaton) text(drop, size int) {
	l := a.top().part.Parts
	text := a.s[a.at+drop : a.at+drop+size]
	if n := len(l); n > 0 && l[n-1].Kind == api.PText {
		l[n-1].Text += text
	} else {
		a.top().part.Parts = append(l, api.Part{Kind: api.PText, Text: text})
	}
	a.at += drop + size
}

func (a *automaton) add(part api.Part, size int) {
	a.top().part.Parts = append(a.top().part.Parts, part)
	a.at += size
}

// push opens a part; its level is checked at the offset level.
func (a *automaton) push(kind byte, part api.Part, level, size int) {
	if len(a.stack) == api.MaxDepth {
		panic(problem{level, api.ErrDepth})
	}
	o := open{kind: kind, mode: kind, at: a.at, part: part}
	if kind == '{' {
		o.mode = a.top().mode
	}
	a.stack = append(a.stack, o)
	a.at += size
}

func (a *automaton) pop(size int) {
	part := a.top().part
	a.stack = a.stack[:len(a.stack)-1]
	a.add(part, size)
}

// closed returns the source of the construct at the offset.
func (a *automaton) closed() string {
	end, errno := lexer.Close(a.s, a.at)
	if errno != api.OK {
		panic(problem{end, errno})
	}
	return a.s[a.at:end]
}

func isCommand(text string) bool {
	end, errno := lexer.Close("$("+text+")", 0)
	return end == len(text)+3 && errno == api.OK
}

var backslashes = regexp.MustCompile("\\\\([`\\\\$])")

func (a *automaton) backquoted() {
	source := a.closed()
	text := backslashes.ReplaceAllString(source[1:len(source)-1], "$1")
	if strings.HasPrefix(text, "(") {
		text = " " + text
	}
	switch {
	case isCommand(text):
		a.add(api.Part{Kind: api.PCommand, Text: text}, len(source))
	case isCommand(text + "\n"):
		a.add(api.Part{Kind: api.PCommand, Text: text + "\n"}, len(source))
	default:
		panic(problem{a.at, api.ErrSyntax})
	}
}

const parameterForm = `([A-Za-z_][A-Za-z_0-9]*|[1-9][0-9]*|[0@*#?$!-])`

var (
	plainForm    = regexp.MustCompile(`^\$([A-Za-z_][A-Za-z_0-9]*|[0-9@*#?$!-])`)
	simpleForm   = regexp.MustCompile(`^` + parameterForm + `\}`)
	lengthForm   = regexp.MustCompile(`^#` + parameterForm + `\}`)
	operatorForm = regexp.MustCompile(`^` + parameterForm + `(:?)([-=?+]|%%?|##?)`)
	prefixForm   = regexp.MustCompile(`^(#?` + parameterForm + `?|` + parameterForm + `:?)$`)
	nameStart    = regexp.MustCompile(`^[A-Za-z_]`)
	nameByte     = regexp.MustCompile(`^[A-Za-z_0-9]`)
	ops          = map[string]int{"-": api.OpDefault, "=": api.OpAssign, "?": api.OpError, "+": api.OpAlternative, "%": api.OpShortSuffix, "%%": api.OpLongSuffix, "#": api.OpShortPrefix, "##": api.OpLongPrefix}
)

// number reports whether a parameter is not a number that is too large.
func number(s string) bool {
	return s < "1" || s > "9z" || len(s) < 10 || len(s) == 10 && s <= "2147483647"
}

// name checks the parameter at an offset.
func name(s string, at int) string {
	if len(s) > api.MaxName {
		panic(problem{at, api.ErrTooLong})
	}
	return s
}

// braced reads the beginning of a braced parameter.
func (a *automaton) braced() {
	from := a.at + 2
	rest := a.s[from:]
	if m := lengthForm.FindStringSubmatch(rest); m != nil && number(m[1]) {
		a.add(api.Part{Kind: api.PParam, Op: api.OpLength, Text: name(m[1], from+1)}, 2+len(m[0]))
		return
	}
	if m := simpleForm.FindStringSubmatch(rest); m != nil && number(m[1]) {
		a.add(api.Part{Kind: api.PParam, Text: name(m[1], from)}, 2+len(m[0]))
		return
	}
	end := len(rest) > 1 && prefixForm.MatchString(rest) && rest[0] == '#' && rest[1] != ':' // # and a parameter
	if m := operatorForm.FindStringSubmatch(rest); m != nil && number(m[1]) && !end && (m[2] == "" || len(m[3]) == 1 && m[3] != "%" && m[3] != "#") {
		part := api.Part{Kind: api.PParam, Text: name(m[1], from), Op: ops[m[3]], Colon: m[2] != ""}
		a.push('{', part, from+len(m[1]), 2+len(m[0]))
		if a.has("\\\n") {
			panic(problem{a.at, api.ErrSyntax})
		}
		return
	}
	a.notBraced(from)
}

// notBraced finds the first byte that continues none of the forms.
func (a *automaton) notBraced(from int) {
	for to := from; to < len(a.s); to++ {
		m := prefixForm.FindStringSubmatch(a.s[from : to+1])
		if m == nil || !number(m[2]+m[3]) {
			for i := from + 1; i <= to; i++ {
				// The name is read before the byte.
				name(strings.TrimLeft(a.s[from:i], "#"), from+strings.Count(a.s[from:i], "#"))
			}
			panic(problem{to, api.ErrSyntax})
		}
	}
	name(strings.Trim(a.s[from:], "#:"), from+strings.Count(a.s[from:], "#"))
	panic(problem{a.at, api.ErrIncomplete})
}

func (a *automaton) dollar() {
	m := plainForm.FindStringSubmatch(a.s[a.at:])
	switch {
	case a.has("$(("):
		a.push('+', api.Part{Kind: api.PArith}, a.at, 3)
	case a.has("$("):
		source := a.closed()
		a.add(api.Part{Kind: api.PCommand, Text: source[2 : len(source)-1]}, len(source))
	case a.has("${"):
		a.braced()
	case m != nil:
		a.add(api.Part{Kind: api.PParam, Text: name(m[1], a.at)}, len(m[0]))
	case a.top().mode == 'w' && (a.has("$`") || a.has("$\\\n")):
		panic(problem{a.at, api.ErrSyntax})
	default:
		a.text(0, 1)
	}
}

func (a *automaton) step() {
	t := a.top()
	switch {
	case t.kind == '{' && a.has("}"), t.kind == '"' && a.has("\""):
		a.pop(1)
	case t.kind == '+' && t.depth == 0 && a.has("))"):
		a.pop(2)
	case t.kind == '+' && t.depth == 0 && a.has(")") && a.at+1 < len(a.s):
		panic(problem{a.at, api.ErrSyntax})
	case a.has("\\\n"):
		a.at += 2
	case a.has("`"):
		a.backquoted()
	case a.has("$"):
		a.dollar()
	case t.mode == 'w':
		a.word()
	case a.has("\\"):
		a.backslash()
	case t.mode == '"' && a.has("\""):
		panic(problem{a.at, api.ErrSyntax})
	default:
		if t.kind == '+' {
			t.depth += strings.Count(a.s[a.at:a.at+1], "(") - strings.Count(a.s[a.at:a.at+1], ")")
		}
		a.text(0, 1)
	}
}

var tildeForm = regexp.MustCompile(`^~(\\\n)*(/|$)`)

// word reads what has a meaning outside of quotes.
func (a *automaton) word() {
	t, rest := a.top(), a.s[a.at:]
	if i := strings.Index(rest, "}"); i >= 0 && t.kind == '{' {
		rest = rest[:i]
	}
	switch {
	case a.has("'"):
		source := a.closed()
		a.add(api.Part{Kind: api.PQuoted, Text: strings.Trim(source, "'")}, len(source))
	case a.has("\""):
		a.push('"', api.Part{Kind: api.PDouble}, a.at, 1)
	case a.has("\\"):
		a.add(api.Part{Kind: api.PQuoted, Text: a.closed()[1:]}, 2)
	case len(t.part.Parts) == 0 && tildeForm.MatchString(rest):
		a.add(api.Part{Kind: api.PTilde}, 1)
	case t.kind == 'w' && strings.Contains(" \t\n&|;()<>", a.s[a.at:a.at+1]):
		panic(problem{a.at, api.ErrSyntax})
	default:
		a.text(0, 1)
	}
}

// backslash reads a backslash within quotes.
func (a *automaton) backslash() {
	t, next := a.top(), a.s[a.at+1:]
	switch {
	case next == "" && t.mode == 'h':
		a.text(0, 1)
	case next == "":
		panic(problem{a.at, api.ErrIncomplete})
	case strings.Contains("$`\\", next[:1]), t.mode == '"' && next[0] == '"', t.kind == '{' && next[0] == '}':
		a.text(1, 1)
	case t.kind == '+' && (next[0] == '(' || next[0] == ')'):
		panic(problem{a.at, api.ErrSyntax})
	default:
		a.text(0, 2)
	}
}

// parse returns by definition the result of Parse (for the kind w) or Here (for h).
func parse(s string, kind byte) (l []api.Part, at int, errno api.Errno) {
	if len(s) > api.MaxText {
		return nil, 0, api.ErrTooLong
	}
	defer func() {
		if r := recover(); r != nil {
			l, at, errno = nil, r.(problem).at, r.(problem).errno
		}
	}()
	a := automaton{s: s, stack: []open{{kind: kind, mode: kind}}}
	for a.at < len(s) {
		a.step()
	}
	if len(a.stack) > 1 {
		return nil, a.top().at, api.ErrIncomplete
	}
	return a.top().part.Parts, 0, api.OK
}

// show returns by definition the source of parts: of a word if special is empty, and otherwise within quotes, where the bytes of special need a backslash.
func show(l []api.Part, special string) string {
	source := ""
	for i, part := range l {
		after := ""
		if i+1 < len(l) && l[i+1].Kind == api.PText {
			after = l[i+1].Text
		}
		source += showPart(part, after, special)
	}
	return source
}

var textOps = map[int]string{api.OpDefault: "-", api.OpAssign: "=", api.OpError: "?", api.OpAlternative: "+", api.OpShortSuffix: "%", api.OpLongSuffix: "%%", api.OpShortPrefix: "#", api.OpLongPrefix: "##"}

func showPart(part api.Part, after, special string) string {
	switch part.Kind {
	case api.PText:
		text := ""
		for _, b := range []byte(part.Text) {
			if strings.IndexByte(special, b) >= 0 {
				text += "\\"
			}
			text += string([]byte{b})
		}
		return text
	case api.PQuoted:
		if part.Text == "'" {
			return "\\'"
		}
		return "'" + part.Text + "'"
	case api.PDouble:
		return "\"" + show(part.Parts, "\\$`\"") + "\""
	case api.PCommand:
		return "$(" + part.Text + ")"
	case api.PArith:
		return "$((" + show(part.Parts, "\\$`") + "))"
	case api.PTilde:
		return "~"
	}
	colon := map[bool]string{true: ":"}[part.Colon]
	isName := nameStart.MatchString(part.Text)
	switch {
	case part.Op == api.OpLength:
		return "${#" + part.Text + "}"
	case part.Op != api.OpNone:
		if special != "" && !strings.Contains(special, "}") {
			special += "}"
		}
		return "${" + part.Text + colon + textOps[part.Op] + show(part.Parts, special) + "}"
	case isName && nameByte.MatchString(after), !isName && len(part.Text) > 1:
		return "${" + part.Text + "}"
	}
	return "$" + part.Text
}

func equal(a, b []api.Part) bool {
	if len(a) != len(b) {
		return false
	}
	for i := range a {
		if a[i].Kind != b[i].Kind || a[i].Text != b[i].Text || a[i].Op != b[i].Op || a[i].Colon != b[i].Colon || !equal(a[i].Parts, b[i].Parts) {
			return false
		}
	}
	return true
}

// checkParse compares Parse and Here with their definitions, and checks P8.3, P8.8 and P8.9 for the parts of a word.
func checkParse(t *testing.T, s string) {
	t.Helper()
	l, at, errno := words.Here(s)
	if want, wantAt, wantErrno := parse(s, 'h'); !equal(l, want) || at != wantAt || errno != wantErrno {
		t.Fatalf("Here(%q) is %+v, %d, %d, want %+v, %d, %d", s, l, at, errno, want, wantAt, wantErrno)
	}
	l, at, errno = words.Parse(s)
	if want, wantAt, wantErrno := parse(s, 'w'); !equal(l, want) || at != wantAt || errno != wantErrno {
		t.Fatalf("Parse(%q) is %+v, %d, %d, want %+v, %d, %d", s, l, at, errno, want, wantAt, wantErrno)
	}
	checkToken(t, s, at, errno)
	if errno != api.OK {
		return
	}
	source, errno := words.Show(l)
	if want := show(l, ""); source != want || errno != api.OK || words.Valid(l) != api.OK {
		t.Fatalf("Show of %q is %q, %d, want %q", s, source, errno, want)
	}
	if again, _, errno := words.Parse(source); !equal(again, l) || errno != api.OK {
		t.Fatalf("Parse(%q) is %+v, %d, want %+v", source, again, errno, l)
	}
}

// checkToken checks that words and tokens are complete alike.
func checkToken(t *testing.T, s string, at int, errno api.Errno) {
	t.Helper()
	token, tokenErrno := lexer.Next(s, 0)
	switch {
	case token.Text == s && token.Kind == api.TWord && errno == api.ErrIncomplete:
		t.Fatalf("Parse of the token %q is ErrIncomplete with %d", s, at)
	case errno == api.ErrIncomplete && lexer.Skip(s, 0) == 0 && (token.Pos != at || tokenErrno != errno):
		t.Fatalf("Parse(%q) is ErrIncomplete with %d, but Next is %d with %d", s, at, tokenErrno, token.Pos)
	}
}

func bytesOf(s string) []string { return strings.Split(s, "") }

func TestSmall(t *testing.T) {
	for _, alphabet := range []string{"$(){}'\"`\\\na1~", "${}#-:%x\\\n1", "$\\\n`a~/}\"'"} {
		small.Each(bytesOf(alphabet), 4, func(s string) { checkParse(t, s) })
	}
}

// TestNested checks what is nested in pairs of parts.
func TestNested(t *testing.T) {
	outer := []string{"", "\"", "$((", "$((1+(", "${x-", "${#:=", "$(", "`", "a"}
	for _, a := range outer {
		for _, b := range outer {
			small.Each(bytesOf("$(){}'\"`\\\n# a~/"), 2, func(s string) {
				checkParse(t, a+b+s)
				for _, end := range []string{"}", "\"", "))", ")", "`", "}}", "\"}", "}\"", "))}", "}))", "))\"", "\"))", "))))", "`}", "`\"", ")\"", ")}"} {
					checkParse(t, a+b+s+end)
				}
			})
		}
	}
}

// TestBraces checks all short beginnings of braced parameters.
func TestBraces(t *testing.T) {
	pieces := []string{"#", "-", "=", "?", "+", ":", "%", "}", "x", "1", "0", "$", "@", "*", "!", "\\\n", "_", "{", "'", "\"", "~", " "}
	small.Each(pieces, 3, func(s string) {
		checkParse(t, "${"+s)
		checkParse(t, "${"+s+"}")
		checkParse(t, "\"${"+s+"}\"")
		checkParse(t, "$((${"+s+"}))")
	})
	small.Each([]string{"#", "-", "?", ":", "%", "}", "x", "1"}, 5, func(s string) { checkParse(t, "${"+s+"}") })
	for b := range 256 {
		c := string([]byte{byte(b)})
		for _, s := range []string{"$" + c, "${" + c, "${" + c + "}", "${x" + c + "}", "${x:" + c + "}", "${1" + c + "}", "${#" + c + "}", "${#x" + c + "}", "$x" + c, "\\" + c, "\"\\" + c + "\"", "$((\\" + c + "))", "\"${x-\\" + c + "}\"", "$((${x-\\" + c + "}))", "${x-" + c + "}", "'" + c + "'", "`\\" + c + "`", c, "~" + c} {
			checkParse(t, s)
		}
	}
}

func TestBackquoted(t *testing.T) {
	small.Each(bytesOf("\\`$(#)\n \"a'"), 4, func(s string) {
		checkParse(t, "`"+s+"`")
		checkParse(t, "\"`"+s+"`\"")
	})
}
