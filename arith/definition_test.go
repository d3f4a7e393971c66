package arith_test

import (
	"math/big"
	"regexp"
	"slices"
	"strings"
	"testing"

	"jobshell/api"
	"jobshell/arith"
	"jobshell/small"
)

// The tests of this file compare Parse with a parser that follows the grammar by trying all divisions of the tokens.

var (
	tokenForm = func() *regexp.Regexp {
		r := regexp.MustCompile(`^(?s:[ \t\n]+|[0-9A-Za-z_]+|<<=|>>=|\+=|-=|\*=|/=|%=|&=|\^=|\|=|\|\||&&|==|!=|<=|>=|<<|>>|.)`)
		r.Longest()
		return r
	}()
	constantForm = regexp.MustCompile(`^(0[xX][0-9a-fA-F]+|0[0-7]*|[1-9][0-9]*)$`)
	nameForm     = regexp.MustCompile(`^[A-Za-z_][0-9A-Za-z_]*$`)
	levels       = [...][]string{3: {"||"}, 4: {"&&"}, 5: {"|"}, 6: {"^"}, 7: {"&"}, 8: {"==", "!="}, 9: {"<", ">", "<=", ">="}, 10: {"<<", ">>"}, 11: {"+", "-"}, 12: {"*", "/", "%"}}
	binaryOps    = map[string]int{
		"||": api.XOr, "&&": api.XAnd, "|": api.XBitOr, "^": api.XXor, "&": api.XBitAnd, "==": api.XSame, "!=": api.XDiffer, "<": api.XLess, ">": api.XMore, "<=": api.XAtMost, ">=": api.XAtLeast,
		"<<": api.XLeft, ">>": api.XRight, "+": api.XAdd, "-": api.XSub, "*": api.XMul, "/": api.XDiv, "%": api.XMod,
	}
	unaryOps = map[string]int{"-": api.XNeg, "+": api.XPlus, "!": api.XNot, "~": api.XFlip}
	setOps   = map[string]int{
		"=": 0, "+=": api.XAdd, "-=": api.XSub, "*=": api.XMul, "/=": api.XDiv, "%=": api.XMod, "<<=": api.XLeft, ">>=": api.XRight, "&=": api.XBitAnd, "^=": api.XXor, "|=": api.XBitOr,
	}
)

// split returns the tokens of s and their offsets.
func split(s string) (tokens []string, offsets []int) {
	for at := 0; at < len(s); {
		size := 1
		if s[at] < 128 {
			size = len(tokenForm.FindString(s[at:]))
		}
		if strings.Trim(s[at:at+size], " \t\n") != "" {
			tokens, offsets = append(tokens, s[at:at+size]), append(offsets, at)
		}
		at += size
	}
	return tokens, offsets
}

func isConstant(token string) bool { return '0' <= token[0] && token[0] <= '9' }

// constantValue returns the value of a constant, or a negative number if it is not well-formed.
func constantValue(token string) *big.Int {
	n, ok := new(big.Int).SetString(token, 0)
	if !constantForm.MatchString(token) || !ok {
		return big.NewInt(-1)
	}
	return n
}

// derive returns by definition the tree of the tokens as an expression of a level or a higher one.
func derive(level int, tokens []string) (api.Expr, bool) {
	if len(tokens) == 0 {
		return api.Expr{}, false
	}
	switch {
	case level == 1:
		if len(tokens) > 2 && nameForm.MatchString(tokens[0]) {
			if op, ok := setOps[tokens[1]]; ok {
				if e, ok := derive(1, tokens[2:]); ok {
					return api.Expr{Op: api.XSet, N: op, Name: tokens[0], Kids: []api.Expr{e}}, true
				}
			}
		}
	case level == 2:
		for i := range tokens {
			for j := i + 1; j < len(tokens) && tokens[i] == "?"; j++ {
				if tokens[j] != ":" {
					continue
				}
				a, okA := derive(3, tokens[:i])
				b, okB := derive(1, tokens[i+1:j])
				c, okC := derive(2, tokens[j+1:])
				if okA && okB && okC {
					return api.Expr{Op: api.XCond, Kids: []api.Expr{a, b, c}}, true
				}
			}
		}
	case level <= 12:
		for i, token := range tokens {
			if slices.Contains(levels[level], token) {
				a, okA := derive(level, tokens[:i])
				b, okB := derive(level+1, tokens[i+1:])
				if okA && okB {
					return api.Expr{Op: binaryOps[token], Kids: []api.Expr{a, b}}, true
				}
			}
		}
	case level == 13:
		if op, ok := unaryOps[tokens[0]]; ok {
			if e, ok := derive(13, tokens[1:]); ok {
				return api.Expr{Op: op, Kids: []api.Expr{e}}, true
			}
		}
	default:
		return deriveSingle(tokens)
	}
	return derive(level+1, tokens)
}

func deriveSingle(tokens []string) (api.Expr, bool) {
	last := len(tokens) - 1
	switch {
	case tokens[0] == "(" && tokens[last] == ")" && last > 0:
		return derive(1, tokens[1:last])
	case last > 0:
		return api.Expr{}, false
	case isConstant(tokens[0]):
		return api.Expr{Op: api.XNum, N: int(constantValue(tokens[0]).Int64())}, true
	case nameForm.MatchString(tokens[0]):
		return api.Expr{Op: api.XVar, Name: tokens[0]}, true
	}
	return api.Expr{}, false
}

// begins reports whether an expression begins with the tokens: whether what closes its parentheses and conditions completes it, perhaps after an operand.
func begins(tokens []string) bool {
	var open []string
	for _, token := range tokens {
		switch token {
		case "(", "?":
			open = append(open, token)
		case ")", ":":
			if len(open) == 0 || (open[len(open)-1] == "(") != (token == ")") {
				return false
			}
			open = open[:len(open)-1]
		}
	}
	var closing []string
	for _, token := range slices.Backward(open) {
		if token == "(" {
			closing = append(closing, ")")
		} else {
			closing = append(closing, ":", "1")
		}
	}
	_, complete := derive(1, slices.Concat(tokens, closing))
	_, continued := derive(1, slices.Concat(tokens, []string{"1"}, closing))
	return complete || continued
}

func depth(e api.Expr) int {
	if len(e.Kids) == 0 {
		return 1
	}
	d := 0
	for _, kid := range e.Kids {
		d = max(d, depth(kid))
	}
	return d + 1
}

// parsed returns by definition the result of Parse.
func parsed(s string) (api.Expr, int, api.Errno) {
	if len(s) > api.MaxWord {
		return api.Expr{}, 0, api.ErrTooLong
	}
	tokens, offsets := split(s)
	if len(tokens) == 0 {
		return api.Expr{Op: api.XNum}, 0, api.OK
	}
	for i, token := range tokens {
		switch {
		case !begins(tokens[:i+1]), isConstant(token) && constantValue(token).Sign() < 0:
			return api.Expr{}, offsets[i], api.ErrSyntax
		case isConstant(token) && !constantValue(token).IsInt64():
			return api.Expr{}, offsets[i], api.ErrOverflow
		case nameForm.MatchString(token) && len(token) > api.MaxName:
			return api.Expr{}, offsets[i], api.ErrName
		}
	}
	e, ok := derive(1, tokens)
	switch {
	case !ok:
		return api.Expr{}, len(s), api.ErrSyntax
	case depth(e) > api.MaxDepth:
		return api.Expr{}, 0, api.ErrDepth
	}
	return e, 0, api.OK
}

func compareParse(t *testing.T, s string) {
	t.Helper()
	e, at, errno := arith.Parse(s)
	wantE, wantAt, wantErrno := parsed(s)
	if !equal(e, wantE) || at != wantAt || errno != wantErrno {
		t.Errorf("Parse(%q) is %v, %d, %d, want %v, %d, %d", s, e, at, errno, wantE, wantAt, wantErrno)
	}
	if errno == api.OK {
		checkParsed(t, s, e)
	}
}

// checkParsed checks the consequences of P5.5 for the tree of s.
func checkParsed(t *testing.T, s string, e api.Expr) {
	t.Helper()
	shown, errno := arith.Show(e)
	if arith.Valid(e) != api.OK || errno != api.OK {
		t.Errorf("the tree of %q is not valid", s)
	}
	again, _, errno := arith.Parse(shown)
	if errno != api.OK || !equal(again, e) {
		t.Errorf("%q is shown as %q, which is %v, %d", s, shown, again, errno)
	}
	if twice, _ := arith.Show(again); twice != shown {
		t.Errorf("%q is shown as %q, and then as %q", s, shown, twice)
	}
}

func TestParseTokens(t *testing.T) {
	long := strings.Repeat("n", api.MaxName+1) + " "
	for _, c := range []struct {
		n      int
		pieces []string
	}{
		{6, []string{"1 ", "a ", "= ", "? ", ": ", "+ "}},
		{6, []string{"a ", "( ", ") ", "- ", "*= "}},
		{5, []string{"2 ", "b ", "|| ", "&& ", "? ", ": ", "= "}},
		{5, []string{"a ", "< ", "== ", "! ", "~ ", ") ", "( "}},
		{4, []string{"a ", "09 ", long, "9223372036854775808 ", "? ", "+ ", "= ", "( ", "$ "}},
		{3, []string{"1 ", "a ", "| ", "^ ", "& ", "== ", "!= ", "< ", "> ", "<= ", ">= ", "<< ", ">> ", "+ ", "- ", "* ", "/ ", "% ", "! ", "~ ", "( ", ") ", "? ", ": ", "= ", "<<= ", "^= ", "# "}},
	} {
		small.Each(c.pieces, c.n, func(s string) { compareParse(t, s) })
	}
}

func TestParseBytes(t *testing.T) {
	for _, pieces := range [][]string{
		{"1", "a", "=", "<", ">", "!", " "},
		{"0", "a", "+", "-", "=", "&", "|"},
		{"x", "0", "8", "(", ")", "\n"},
		{"a", "*", "/", "%", "^", "="},
	} {
		small.Each(pieces, 5, func(s string) { compareParse(t, s) })
	}
	for b := range 256 {
		c := string([]byte{byte(b)})
		for _, s := range []string{c, c + "1", "1" + c, "1" + c + "2", "a" + c + "b", "a" + c + "=b", "a=" + c + "b", "1 ? 2" + c + "3", "(1" + c} {
			compareParse(t, s)
		}
	}
}

// TestParseLevels parses all pairs of operators without parentheses and with them.
func TestParseLevels(t *testing.T) {
	var operators []string
	for op := range binaryOps {
		operators = append(operators, op)
	}
	for op := range setOps {
		operators = append(operators, op)
	}
	operators = append(operators, "? b :")
	for _, f := range operators {
		for _, g := range operators {
			for _, s := range []string{"a f b g c", "(a f b) g c", "a f (b g c)", "-a f !b", "-(a f b)", "a?b f c:d", "a?b:c f d", "a f b g c f d", "a f (b)", "(a) f b"} {
				compareParse(t, strings.NewReplacer("f", f, "g", g).Replace(s))
			}
		}
	}
}
