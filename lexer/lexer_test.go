package lexer_test

import (
	"regexp"
	"slices"
	"strings"
	"testing"

	"jobshell/api"
	"jobshell/lexer"
	"jobshell/small"
)

var operators = []string{"&&", "||", ";", ";;", "&", "|", "(", ")", "<", ">", "<<", "<<-", ">>", "<&", ">&", "<>", ">|", "\n"}

func TestOperator(t *testing.T) {
	small.Each(strings.Split("&|;()<>-\n a\\", ""), 4, func(s string) {
		if want := slices.Contains(operators, s); lexer.Operator(s) != want {
			t.Errorf("Operator(%q) is %v", s, !want)
		}
	})
}

func TestReserved(t *testing.T) {
	reserved := strings.Fields("! { } case do done elif else esac fi for if in then until while")
	for _, word := range reserved {
		for _, s := range []string{word, word + " ", " " + word, word + word, word[1:], word[:len(word)-1], strings.ToUpper(word), "'" + word + "'", "\\" + word} {
			if want := slices.Contains(reserved, s); lexer.Reserved(s) != want {
				t.Errorf("Reserved(%q) is %v", s, !want)
			}
		}
	}
	for _, s := range []string{"", "select", "function", "time", "[[", "]]", "[", "]", "(", ")", "&&", ";", "\n", "end", "then\n", "elsif", "continue", "break", "return"} {
		if lexer.Reserved(s) {
			t.Errorf("Reserved(%q)", s)
		}
	}
}

var skipped = regexp.MustCompile(`^(?:[ \t]|\\\n|#[^\n]*)*`)

// skipOf returns by definition the result of Skip.
func skipOf(s string, at int) int {
	at = min(max(at, 0), len(s))
	return at + len(skipped.FindString(s[at:]))
}

func TestSkip(t *testing.T) {
	small.Each(strings.Split(" \t#\\\na;", ""), 5, func(s string) {
		for at := -1; at <= len(s)+1; at++ {
			if n, want := lexer.Skip(s, at), skipOf(s, at); n != want {
				t.Fatalf("Skip(%q, %d) is %d, want %d", s, at, n, want)
			}
		}
	})
	for b := range 256 {
		for _, s := range []string{string([]byte{byte(b)}), string([]byte{'\\', byte(b), 'a'}), string([]byte{'#', byte(b), 'a', '\n', 'a'})} {
			if n, want := lexer.Skip(s, 0), skipOf(s, 0); n != want {
				t.Errorf("Skip(%q) is %d, want %d", s, n, want)
			}
		}
	}
	for _, at := range []int{-1 << 62, 1 << 62} {
		if n, want := lexer.Skip(" a ", at), skipOf(" a ", at); n != want {
			t.Errorf("Skip at %d is %d, want %d", at, n, want)
		}
	}
	long := strings.Repeat(" ", 2*api.MaxText)
	if n := lexer.Skip(long, 1); n != len(long) {
		t.Errorf("Skip of many blanks is %d", n)
	}
}

// nextOf returns by definition the result of Next.
func nextOf(s string, at int) (api.Token, api.Errno) {
	pos := skipOf(s, at)
	rest := s[pos:]
	if rest == "" {
		return api.Token{Kind: api.TEnd, Pos: pos, End: pos}, api.OK
	}
	best := ""
	for _, op := range operators {
		if strings.HasPrefix(rest, op) && len(op) > len(best) {
			best = op
		}
	}
	token := api.Token{Kind: api.TOp, Pos: pos, End: pos + len(best), Text: best}
	if best == "\n" {
		token.Kind = api.TNewline
	}
	if best != "" {
		return token, api.OK
	}
	end, errno := wordEnd(s, pos)
	if errno != api.OK {
		return api.Token{Pos: end}, errno
	}
	token = api.Token{Kind: api.TWord, Pos: pos, End: end, Text: s[pos:end]}
	if end < len(s) && (s[end] == '<' || s[end] == '>') && strings.Trim(token.Text, "0123456789") == "" {
		token.Kind = api.TNumber
	}
	return token, api.OK
}

func checkNext(t *testing.T, s string, at int) {
	t.Helper()
	token, errno := lexer.Next(s, at)
	if want, wantErrno := nextOf(s, at); token != want || errno != wantErrno {
		t.Fatalf("Next(%q, %d) is %v, %d, want %v, %d", s, at, token, errno, want, wantErrno)
	}
}

func TestNext(t *testing.T) {
	for _, alphabet := range []string{"&|;()<>-\n \\1", "12<>a \\\n&#'", "$(){}\"#\n a"} {
		small.Each(strings.Split(alphabet, ""), 4, func(s string) {
			for at := -1; at <= len(s)+1; at++ {
				checkNext(t, s, at)
			}
		})
	}
	small.Each(strings.Split("&|;()<>-\n", ""), 5, func(s string) { checkNext(t, s, 0) })
	for _, at := range []int{-1 << 62, 1 << 62} {
		checkNext(t, "a b", at)
	}
}

// allOf returns by definition the result of All.
func allOf(s string) ([]api.Token, int, api.Errno) {
	var l []api.Token
	for at := 0; ; at = l[len(l)-1].End {
		token, errno := nextOf(s, at)
		if errno != api.OK {
			return nil, token.Pos, errno
		}
		l = append(l, token)
		if token.Kind == api.TEnd {
			return l, 0, api.OK
		}
	}
}

// checkAll checks All, and P7.6: that the tokens cover the source.
func checkAll(t *testing.T, s string) {
	t.Helper()
	l, at, errno := lexer.All(s)
	want, wantAt, wantErrno := allOf(s)
	if !slices.Equal(l, want) || at != wantAt || errno != wantErrno {
		t.Fatalf("All(%q) is %v, %d, %d, want %v, %d, %d", s, l, at, errno, want, wantAt, wantErrno)
	}
	end := 0
	for _, token := range l {
		if token.Pos != lexer.Skip(s, end) || token.Text != s[token.Pos:token.End] {
			t.Fatalf("All(%q) is %v", s, l)
		}
		end = token.End
	}
}

func TestAll(t *testing.T) {
	for _, alphabet := range []string{"&|;<>-\n 1", "12<>a \\\n#'", "$(){}\"#\n a;"} {
		small.Each(strings.Split(alphabet, ""), 5, func(s string) { checkAll(t, s) })
	}
	for _, s := range []string{"a>b 2>&1 #c", "a'b", "if a; then 'b c' \"$(d \"e\")\" ${f:-g h} `i`; fi # j", "cat <<-E 10<>f >|g 2>h\\\n3>4", "a&&b||c;;d&e|f(g)", "x=$((1 + (2)))<y", "a b 'c", "$((1) 2)) 'a", "a \"${x-\"}\" `", "12a>1 1'2'>3 $1>4 1\\\n>5"} {
		checkAll(t, s)
	}
}

func TestTokenLimits(t *testing.T) {
	long := strings.Repeat("a", api.MaxText)
	if l, at, e := lexer.All(long); len(l) != 2 || l[0].Text != long || at != 0 || e != api.OK {
		t.Errorf("All of the longest text is %d tokens, %d, %d", len(l), at, e)
	}
	for _, s := range []string{long + "a", long + " ", " " + long, long + "'", strings.Repeat("'", api.MaxText+1), strings.Repeat(" ", api.MaxText+1)} {
		if l, at, e := lexer.All(s); len(l) != 0 || at != 0 || e != api.ErrTooLong {
			t.Errorf("All is %d tokens, %d, %d", len(l), at, e)
		}
		for _, at := range []int{-1, 0, 5, len(s), len(s) + 1} {
			if token, e := lexer.Next(s, at); token != (api.Token{}) || e != api.ErrTooLong {
				t.Errorf("Next at %d is %v, %d", at, token, e)
			}
		}
	}
	if l, _, e := lexer.All(strings.Repeat(";", api.MaxText)); len(l) != api.MaxText/2+1 || e != api.OK {
		t.Errorf("All has %d tokens, %d", len(l), e)
	}
}

// TestLines checks P7.7.
func TestLines(t *testing.T) {
	var sources []string
	small.Each(strings.Split("a1 <#\\\n'$(", ""), 3, func(s string) {
		if _, _, errno := lexer.All(s); errno == api.OK {
			sources = append(sources, s)
		}
	})
	for i, s := range sources {
		first, _, _ := lexer.All(s)
		for j := i % 7; j < len(sources); j += 7 {
			second, _, _ := lexer.All(sources[j])
			want := append(slices.Clone(first[:len(first)-1]), api.Token{Kind: api.TNewline, Pos: len(s), End: len(s) + 1, Text: "\n"})
			for _, token := range second {
				token.Pos += len(s) + 1
				token.End += len(s) + 1
				want = append(want, token)
			}
			if l, _, errno := lexer.All(s + "\n" + sources[j]); !slices.Equal(l, want) || errno != api.OK {
				t.Fatalf("All(%q) is %v, %d, want %v", s+"\n"+sources[j], l, errno, want)
			}
		}
	}
}
