package parse_test

import (
	"math/rand"
	"slices"
	"strings"
	"testing"

	"jobshell/api"
	"jobshell/chars"
	"jobshell/lexer"
	"jobshell/parse"
	"jobshell/small"
)

// The tests of this file compare the errors with the grammar of the document, which is tried here in all ways: the first token that no way gets past is the one that the grammar does not permit.

// reader reads tokens; far is the last token that a rule did not permit.
type reader struct {
	tokens []api.Token
	far    int
}

// rule returns where what begins at a token can end.
type rule func(r *reader, at int) []int

// refuse notes that a rule does not permit a token.
func (r *reader) refuse(at int) []int {
	r.far = max(r.far, at)
	return nil
}

// one reads one token.
func one(permits func(token api.Token) bool) rule {
	return func(r *reader, at int) []int {
		if at < len(r.tokens) && permits(r.tokens[at]) {
			return []int{at + 1}
		}
		return r.refuse(at)
	}
}

func text(s string) rule { return one(func(token api.Token) bool { return token.Text == s }) }

func isWord(token api.Token) bool { return token.Kind == api.TWord }

func isName(token api.Token) bool { return isWord(token) && chars.Name(token.Text) }

func seq(rules ...rule) rule {
	return func(r *reader, at int) []int {
		ends := []int{at}
		for _, next := range rules {
			var all []int
			for _, end := range ends {
				all = append(all, next(r, end)...)
			}
			slices.Sort(all)
			ends = slices.Compact(all)
		}
		return ends
	}
}

func alt(rules ...rule) rule {
	return func(r *reader, at int) []int {
		var ends []int
		for _, next := range rules {
			ends = append(ends, next(r, at)...)
		}
		slices.Sort(ends)
		return slices.Compact(ends)
	}
}

func opt(rules ...rule) rule { return alt(seq(), seq(rules...)) }

func many(rules ...rule) rule {
	return func(r *reader, at int) []int {
		all := []int{at}
		for i := 0; i < len(all); i++ {
			for _, end := range seq(rules...)(r, all[i]) {
				if !slices.Contains(all, end) {
					all = append(all, end)
				}
			}
		}
		slices.Sort(all)
		return all
	}
}

// simpleCommand reads as many elements as there are, because they could be nothing else.
func simpleCommand(r *reader, at int) []int {
	hasWord := false
	begin := at
	for {
		token := r.tokens[at]
		switch {
		case token.Kind == api.TNumber:
			at++
			continue
		case isWord(token):
			_, _, isAssign := strings.Cut(token.Text, "=")
			if !hasWord && lexer.Reserved(token.Text) {
				return r.refuse(at)
			}
			hasWord = hasWord || !isAssign
			at++
		case token.Kind == api.TOp && strings.ContainsAny(token.Text, "<>"):
			if !isWord(r.tokens[at+1]) {
				return r.refuse(at + 1)
			}
			at += 2
		case at == begin:
			return r.refuse(at)
		default:
			r.refuse(at)
			return []int{at}
		}
	}
}

func redirection(r *reader, at int) []int {
	return seq(opt(one(func(token api.Token) bool { return token.Kind == api.TNumber })), one(func(token api.Token) bool { return token.Kind == api.TOp && strings.ContainsAny(token.Text, "<>") }), one(isWord))(r, at)
}

// The rules of the document. Those that refer to later ones are functions.

var (
	newlines  = many(text("\n"))
	word      = one(isWord)
	separator = alt(seq(alt(text(";"), text("&")), newlines), seq(text("\n"), newlines))
	lineEnd   = one(func(token api.Token) bool { return token.Kind == api.TNewline || token.Kind == api.TEnd })
)

func line(r *reader, at int) []int {
	if at == len(r.tokens) {
		return nil
	}
	return seq(opt(list), lineEnd)(r, at)
}

func list(r *reader, at int) []int {
	return seq(andOr, many(alt(text(";"), text("&")), andOr), opt(alt(text(";"), text("&"))))(r, at)
}

func andOr(r *reader, at int) []int {
	return seq(pipeline, many(alt(text("&&"), text("||")), newlines, pipeline))(r, at)
}

func pipeline(r *reader, at int) []int {
	return seq(opt(text("!")), command, many(text("|"), newlines, command))(r, at)
}

func command(r *reader, at int) []int {
	return alt(seq(compound, many(redirection)), function, simpleCommand)(r, at)
}

func function(r *reader, at int) []int {
	name := one(func(token api.Token) bool { return isName(token) && !lexer.Reserved(token.Text) })
	return seq(name, text("("), text(")"), newlines, compound, many(redirection))(r, at)
}

func compound(r *reader, at int) []int {
	return alt(seq(text("{"), body, text("}")), seq(text("("), body, text(")")), ifCommand, loop("while"), loop("until"), forCommand, caseCommand)(r, at)
}

func body(r *reader, at int) []int {
	return seq(newlines, andOr, many(separator, andOr), opt(separator))(r, at)
}

func ifCommand(r *reader, at int) []int {
	return seq(text("if"), body, text("then"), body, many(text("elif"), body, text("then"), body), opt(text("else"), body), text("fi"))(r, at)
}

func loop(first string) rule { return seq(text(first), body, text("do"), body, text("done")) }

func forCommand(r *reader, at int) []int {
	values := seq(text("in"), many(word), alt(text(";"), text("\n")), newlines)
	return seq(text("for"), one(isName), alt(seq(text(";"), newlines), seq(newlines, opt(values))), text("do"), body, text("done"))(r, at)
}

func caseCommand(r *reader, at int) []int {
	return seq(text("case"), word, newlines, text("in"), newlines, many(branch, text(";;"), newlines), opt(branch), text("esac"))(r, at)
}

func branch(r *reader, at int) []int {
	first := one(func(token api.Token) bool { return isWord(token) && token.Text != "esac" })
	return seq(alt(seq(text("("), word), first), many(text("|"), word), text(")"), newlines, opt(body))(r, at)
}

// grammarError returns the error that the grammar gives for tokens.
func grammarError(tokens []api.Token) (int, api.Errno) {
	r := &reader{tokens: tokens}
	if slices.Contains(many(line)(r, 0), len(tokens)) {
		return 0, api.OK
	}
	if token := tokens[r.far]; token.Kind != api.TEnd {
		return token.Pos, api.ErrSyntax
	}
	return tokens[r.far].Pos, api.ErrIncomplete
}

// checkGrammar checks the error of a source without here-documents, in which all words are valid.
func checkGrammar(t *testing.T, s string) api.Errno {
	t.Helper()
	tokens, _, _ := lexer.All(s)
	at, errno := grammarError(tokens)
	if l, gotAt, gotErrno := parse.Program(s); gotAt != at || gotErrno != errno || errno != api.OK && len(l) != 0 {
		t.Fatalf("Program(%q) is %s, %d, %d, want %d, %d", s, sketch(l), gotAt, gotErrno, at, errno)
	}
	return errno
}

// pieces are tokens with what separates them.
var pieces = []string{"a ", "x=1 ", "{ ", "} ", "( ", ") ", "if ", "then ", "elif ", "else ", "fi ", "while ", "until ", "for ", "in ", "do ", "done ", "case ", "esac ", ";; ", "; ", "& ", "| ", "&& ", "|| ", "! ", "\n", ">f ", "2> "}

func TestGrammarOfShortSources(t *testing.T) {
	count := 0
	small.Each(pieces, 3, func(s string) {
		if checkGrammar(t, s) == api.OK {
			count++
		}
	})
	if count < 500 {
		t.Errorf("only %d sources are programs", count)
	}
}

// TestGrammarAfterCommands checks what can follow the parts of commands.
func TestGrammarAfterCommands(t *testing.T) {
	for _, s := range []string{"if a; then b; elif c; then d; else e; fi >f 2>g", "while a; do b; done | until ! a & do b; done &", "for x in a; do b; done && for x; do b; done || for x do b; done", "for x\nin a b\n\ndo b\ndone", "case a in (b | c) d;; e) f & ;; g) esac", "case a\nin\nb)\nc\n;;\nd) ;; esac", "f() { a; } >g; f ( ) ( a )", "{ a && ! b || c | d; } ; ( a & b\n\n)"} {
		tokens, _, _ := lexer.All(s)
		for _, token := range tokens {
			small.Each(pieces, 2, func(more string) { checkGrammar(t, s[:token.Pos]+" "+more) })
		}
	}
}

// TestGrammarOfChangedSources changes tokens of long programs.
func TestGrammarOfChangedSources(t *testing.T) {
	r := rand.New(rand.NewSource(1))
	found := map[api.Errno]int{}
	for range 20000 {
		m := maker{r: r, plain: true}
		m.program(1 + r.Intn(3))
		tokens, _, _ := lexer.All(string(m.s))
		var l []string
		for _, token := range tokens {
			l = append(l, token.Text+" ")
		}
		for range r.Intn(3) {
			i := r.Intn(len(l))
			switch piece := pieces[r.Intn(len(pieces))]; r.Intn(4) {
			case 0:
				l = slices.Insert(l, i, piece)
			case 1:
				l[i] = piece
			case 2:
				l = slices.Delete(l, i, i+1)
			case 3:
				l = l[:i+1]
			}
			if len(l) == 0 {
				l = []string{""}
			}
		}
		found[checkGrammar(t, strings.Join(l, ""))]++
	}
	for _, errno := range []api.Errno{api.OK, api.ErrSyntax, api.ErrIncomplete} {
		if found[errno] < 1000 {
			t.Errorf("the error %d was found %d times only", errno, found[errno])
		}
	}
}
