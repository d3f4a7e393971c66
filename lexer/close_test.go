package lexer_test

import (
	"strings"
	"testing"

	"jobshell/api"
	"jobshell/lexer"
	"jobshell/small"
)

// The tests of this file compare Close and Next with an automaton that has a stack of the open constructs and reads one byte after the other.

// construct is an open construct. Its kind is the byte that is characteristic for it: ' " ` \ { ( for a command substitution, + for an arithmetic expansion, and 0 for a token.
type construct struct {
	kind, mode  byte // the mode of a braced parameter is the kind of what it lies in
	open, depth int
	last        byte // in a command substitution: the previous byte, or x for a construct
}

type automaton struct {
	s     string
	at    int
	stack []construct
}

func (a *automaton) top() *construct { return &a.stack[len(a.stack)-1] }

func (a *automaton) push(kind byte, size int) {
	mode := kind
	if kind == '{' {
		mode = a.top().mode
	}
	a.top().last = 'x'
	a.stack = append(a.stack, construct{kind: kind, mode: mode, open: a.at, last: ' '})
	a.at += size
}

// pop ends the innermost construct after some bytes.
func (a *automaton) pop(size int) {
	a.stack = a.stack[:len(a.stack)-1]
	a.at += size
}

// begin begins or skips the construct at the offset, if one begins there in a mode.
func (a *automaton) begin(mode byte) bool {
	rest := a.s[a.at:]
	has := func(prefix string) bool { return strings.HasPrefix(rest, prefix) }
	quotes := mode == 0 || mode == '('
	switch {
	case has("\\\n") && a.top().kind == '(':
		a.at += 2
	case has("\\"):
		a.push('\\', 1)
	case has("'") && quotes, has("\"") && quotes, has("`"):
		a.push(rest[0], 1)
	case has("${"):
		a.push('{', 2)
	case has("$(("):
		a.push('+', 3)
	case has("$("):
		a.push('(', 2)
	case has("$") && len(rest) > 1 && strings.IndexByte("@*#?-$!0123456789", rest[1]) >= 0:
		a.top().last = 'x'
		a.at += 2
	default:
		return false
	}
	return true
}

// step reads a byte or the beginning of a construct.
func (a *automaton) step() api.Errno {
	t, b := a.top(), a.s[a.at]
	closer := map[byte]byte{'\'': '\'', '"': '"', '`': '`', '{': '}'}[t.kind]
	switch {
	case t.kind == '\\', closer != 0 && b == closer:
		a.pop(1)
		return api.OK
	case t.kind == '\'', t.kind == '`' && b != '\\':
		a.at++
		return api.OK
	case t.kind == '{' && t.mode == '"' && b == '"':
		return api.ErrSyntax
	case t.kind == '(' && b == '#' && strings.IndexByte(" \t\n&|;()<>", t.last) >= 0:
		for a.at < len(a.s) && a.s[a.at] != '\n' {
			a.at++
		}
		return api.OK
	case (t.kind == '(' || t.kind == '+') && b == ')' && t.depth == 0:
		return a.parenthesis()
	case a.begin(t.mode):
		return api.OK
	case b == '(':
		t.depth++
	case b == ')':
		t.depth--
	}
	t.last = b
	a.at++
	return api.OK
}

// parenthesis reads the parenthesis that ends a command substitution or an arithmetic expansion.
func (a *automaton) parenthesis() api.Errno {
	switch rest := a.s[a.at:]; {
	case a.top().kind == '(':
		a.pop(1)
	case rest == ")":
		a.at++
	case rest[1] == ')':
		a.pop(2)
	default:
		return api.ErrSyntax
	}
	return api.OK
}

// run reads bytes until the stack has the given size, and stops before a byte of stop if only a token is open.
func (a *automaton) run(size int, stop string) (int, api.Errno) {
	for len(a.stack) > size && a.at < len(a.s) {
		if len(a.stack) == 1 && strings.IndexByte(stop, a.s[a.at]) >= 0 {
			return a.at, api.OK
		}
		if errno := a.step(); errno != api.OK {
			return a.at, errno
		}
	}
	if len(a.stack) > max(size, 1) {
		return a.top().open, api.ErrIncomplete
	}
	return a.at, api.OK
}

// closeOf returns by definition the result of Close.
func closeOf(s string, at int) (int, api.Errno) {
	if at < 0 || at >= len(s) {
		return 0, api.ErrInvalid
	}
	a := automaton{s: s, at: at, stack: []construct{{}}}
	if size := nameSize(s[at:]); size > 0 {
		return at + size, api.OK
	}
	if !a.begin(0) {
		return 0, api.ErrInvalid
	}
	return a.run(1, "")
}

// nameSize returns the size of a $ and a name.
func nameSize(s string) int {
	if len(s) < 2 || s[0] != '$' || strings.IndexByte("0123456789", s[1]) >= 0 {
		return 0
	}
	rest := strings.TrimLeft(s[1:], "ABCDEFGHIJKLMNOPQRSTUVWXYZabcdefghijklmnopqrstuvwxyz0123456789_")
	if len(rest) == len(s)-1 {
		return 0
	}
	return len(s) - len(rest)
}

// wordEnd returns by definition the offset after the word that begins at an offset.
func wordEnd(s string, at int) (int, api.Errno) {
	a := automaton{s: s, at: at, stack: []construct{{}}}
	return a.run(0, " \t\n&|;()<>")
}

func checkClose(t *testing.T, s string, at int) {
	t.Helper()
	end, errno := lexer.Close(s, at)
	if want, wantErrno := closeOf(s, at); end != want || errno != wantErrno {
		t.Fatalf("Close(%q, %d) is %d, %d, want %d, %d", s, at, end, errno, want, wantErrno)
	}
}

func checkWord(t *testing.T, s string) {
	t.Helper()
	if s == "" || strings.IndexByte(" \t\n&|;()<>#", s[0]) >= 0 || strings.HasPrefix(s, "\\\n") {
		return
	}
	token, errno := lexer.Next(s, 0)
	end, wantErrno := wordEnd(s, 0)
	want := api.Token{Pos: end}
	if wantErrno == api.OK {
		want = api.Token{Kind: api.TWord, End: end, Text: s[:end]}
		if end < len(s) && (s[end] == '<' || s[end] == '>') && strings.Trim(s[:end], "0123456789") == "" {
			want.Kind = api.TNumber
		}
	}
	if token != want || errno != wantErrno {
		t.Fatalf("Next(%q) is %v, %d, want %v, %d", s, token, errno, want, wantErrno)
	}
}

const shellBytes = "$(){}'\"`\\\n# a1;-<"

func TestSmall(t *testing.T) {
	small.Each(strings.Split(shellBytes, ""), 5, func(s string) {
		checkClose(t, s, 0)
		checkWord(t, s)
	})
	small.Each(strings.Split(shellBytes, ""), 3, func(s string) {
		for at := -2; at <= len(s)+2; at++ {
			checkClose(t, s, at)
		}
	})
}

// TestNested checks what is nested in each pair and in some triples of constructs.
func TestNested(t *testing.T) {
	inner := []string{"\"", "`", "$(", "$((", "$((1+(", "${a-", "$(# \n", "'", "\\", "$(a", "$((2)"}
	check := func(prefix string, size int) {
		small.Each(strings.Split("$(){}'\"`\\\n# a", ""), size, func(s string) {
			checkClose(t, prefix+s, 0)
			checkClose(t, prefix+s+"\"})`))\"})))'\"\n)", 0)
			checkWord(t, prefix+s+"}\"))`)\n})'\n)")
		})
	}
	for _, a := range inner {
		for _, b := range inner {
			check(a+b, 3)
			for _, c := range []string{"\"", "$(", "$((", "${a-"} {
				check(a+c+b, 2)
			}
		}
	}
}

func TestComments(t *testing.T) {
	for _, c := range []struct {
		s string
		n int
		e api.Errno
	}{
		{"$(#)\n)", 6, api.OK}, {"$(#)", 0, api.ErrIncomplete}, {"$(a#)", 5, api.OK}, {"$(a #)", 0, api.ErrIncomplete}, {"$(a\t#)\n)", 8, api.OK}, {"$(\n#)\n)", 7, api.OK},
		{"$(a;#)\n)", 8, api.OK}, {"$(a&#)\n)", 8, api.OK}, {"$(a|#)\n)", 8, api.OK}, {"$(a<#)\n)", 8, api.OK}, {"$(a>#)\n)", 8, api.OK}, {"$( (#)\n))", 9, api.OK}, {"$( (a)#)\n)", 10, api.OK},
		{"$(\\\n#)\n)", 8, api.OK}, {"$(\\\n\\\n#)\n)", 10, api.OK}, {"$( \\\n#)\n)", 9, api.OK}, {"$(a\\\n#)", 7, api.OK}, {"$(a\\\n #)\n)", 10, api.OK},
		{"$(\\ #)", 6, api.OK}, {"$(\\;#)", 6, api.OK}, {"$(' '#)", 7, api.OK}, {"$(\" \"#)", 7, api.OK}, {"$(`a;`#)", 8, api.OK}, {"$($(a)#)", 8, api.OK}, {"$($((1))#)", 10, api.OK}, {"$(${a- }#)", 10, api.OK}, {"$(\\\\\n#)\n)", 9, api.OK},
		{"$(#'\n)", 6, api.OK}, {"$(#\\\n)", 6, api.OK}, {"$(#$(\n)", 7, api.OK}, {"$(##\n)", 6, api.OK}, {"$(a{#)", 6, api.OK}, {"$(=#)", 5, api.OK}, {"$($#)", 5, api.OK}, {"$($ #)\n)", 8, api.OK},
		{"$(( # ))", 8, api.OK}, {"${a- #}", 7, api.OK}, {"` #`", 4, api.OK}, {"\" #\"", 4, api.OK}, {"\"$( #\"\n)\"", 9, api.OK},
	} {
		if n, e := lexer.Close(c.s, 0); n != c.n || e != c.e {
			t.Errorf("Close(%q) is %d, %d, want %d, %d", c.s, n, e, c.n, c.e)
		}
	}
}

func TestCloseOthers(t *testing.T) {
	for b := range 256 {
		c := string([]byte{byte(b)})
		checkClose(t, c, 0)
		checkClose(t, "$"+c, 0)
		checkClose(t, "$a"+c+"b", 0)
		checkClose(t, "$_"+c, 0)
		checkClose(t, "$1"+c, 0)
		checkClose(t, "\\"+c, 0)
		checkClose(t, "${"+c+"}", 0)
		checkClose(t, "'"+c+"'", 0)
		checkClose(t, "$((1)"+c, 0)
		checkClose(t, "$(a "+c+"#)\n)", 0)
		checkClose(t, "$(a"+c+"#)\n)", 0)
		checkWord(t, "a"+c+"b")
		checkWord(t, "1"+c+"<")
		checkWord(t, "1"+c)
	}
	long := strings.Repeat("n", api.MaxText-1)
	for _, s := range []string{"$" + long, "\"" + long[1:] + "\"", "'" + long[1:] + "'", "\\" + long} {
		checkClose(t, s, 0)
		for _, at := range []int{0, -1, len(s), len(s) + 1, 1 << 62, -1 << 62} {
			if n, e := lexer.Close(s+"n", at); n != 0 || e != api.ErrTooLong {
				t.Errorf("Close(%.5q..., %d) is %d, %d", s, at, n, e)
			}
		}
	}
	for _, at := range []int{-1, 1, 2, 1 << 62, -1 << 62} {
		if n, e := lexer.Close("\\a", at); n != 0 || e != api.ErrInvalid {
			t.Errorf("Close at %d is %d, %d", at, n, e)
		}
	}
}

func TestCloseDeep(t *testing.T) {
	for open, end := range map[string]string{"$(": ")", "${": "}", "$((": "))", "\"$(": ")\"", "\"${x-": "}\"", "${x-\"": "\"}", "$((${": "}))", "$( (": "))"} {
		n := api.MaxText / (len(open) + len(end))
		s := strings.Repeat(open, n) + strings.Repeat(end, n)
		if open == "\"${x-" {
			s = "${x-" + strings.Repeat("${x-", n/2) + strings.Repeat("}", n/2) + "}"
		}
		checkClose(t, s, 0)
		checkClose(t, s[:len(s)-1], 0)
		checkClose(t, s[:len(s)/2], 0)
	}
}
