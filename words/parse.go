package words

import (
	"strings"

	"jobshell/api"
	"jobshell/class"
	"jobshell/lexer"
	"jobshell/source"
)

// place says where parts are, and at which level of nesting.
type place struct {
	source.Place
	level int
}

// failure is an error and its offset.
type failure struct {
	at    int
	errno api.Errno
}

// parser parses s from the offset at on. Its methods report an error by a panic with a failure.
type parser struct {
	s  string
	at int
}

func fail(at int, errno api.Errno) { panic(failure{at, errno}) }

// parse returns the parts of a word or of a here-document, or an offset and an error.
func parse(s string, in int) (l []api.Part, at int, errno api.Errno) {
	if len(s) > api.MaxText {
		return nil, 0, api.ErrTooLong
	}
	defer func() {
		if f, ok := recover().(failure); ok {
			at, errno = f.at, f.errno
		}
	}()
	p := parser{s: s}
	return p.parts(place{source.Place{In: in}, 1}), 0, api.OK
}

// follows reports whether text is next.
func (p *parser) follows(text string) bool { return strings.HasPrefix(p.s[p.at:], text) }

// accept skips text if it is next.
func (p *parser) accept(text string) bool {
	ok := p.follows(text)
	if ok {
		p.at += len(text)
	}
	return ok
}

// construct skips the quoted string or expansion that is next, and returns its source.
func (p *parser) construct() string {
	from := p.at
	end, errno := lexer.Close(p.s, from)
	if errno != api.OK {
		fail(end, errno)
	}
	p.at = end
	return p.s[from:end]
}

// nest returns the place of the parts in what is at a place, and reports an error at an offset if that is nested too deeply.
func nest(at int, where place, in int, operand bool) place {
	if where.level == api.MaxDepth {
		fail(at, api.ErrDepth)
	}
	return place{source.Place{In: in, Operand: operand}, where.level + 1}
}

// parts parses the parts at a place, up to what ends them or the end of s.
func (p *parser) parts(where place) []api.Part {
	if where.In == source.Word {
		return p.unquoted(where)
	}
	return p.quoted(where)
}

// unquoted parses the parts of a word, or of an operand that is not within quotes.
func (p *parser) unquoted(where place) []api.Part {
	var l list
	for p.at < len(p.s) && !(where.Operand && p.follows("}")) {
		switch b := p.s[p.at]; {
		case b == '\'':
			text := p.construct()
			l.add(api.Part{Kind: api.PQuoted, Text: text[1 : len(text)-1]})
		case b == '"':
			l.add(p.double(where))
		case b == '\\':
			p.escaped(&l)
		case b == '`':
			l.add(p.backquoted())
		case b == '$':
			p.dollar(where, &l)
		case b == '~' && l.isEmpty() && p.isHome(where):
			p.at++
			l.add(api.Part{Kind: api.PTilde})
		case class.Border(b) && !where.Operand:
			fail(p.at, api.ErrSyntax)
		default:
			p.literal(&l)
		}
	}
	return l.finish()
}

// escaped parses a backslash that is not within quotes, and the byte after it.
func (p *parser) escaped(l *list) {
	if text := p.construct(); text != "\\\n" {
		l.add(api.Part{Kind: api.PQuoted, Text: text[1:]})
	}
}

// isHome reports whether the end of the word or a / follows the byte that is next.
func (p *parser) isHome(where place) bool {
	rest := p.s[p.at+1:]
	for strings.HasPrefix(rest, "\\\n") {
		rest = rest[len("\\\n"):]
	}
	return rest == "" || rest[0] == '/' || where.Operand && rest[0] == '}'
}

// quoted parses the parts within double quotes, an arithmetic expansion, a here-document, or an operand in one of these.
func (p *parser) quoted(where place) []api.Part {
	var l list
	depth := 0 // of parentheses in an arithmetic expansion
	for p.at < len(p.s) && !p.ends(where, depth) {
		switch b := p.s[p.at]; {
		case b == '\\':
			p.backslash(where, &l)
		case b == '`':
			l.add(p.backquoted())
		case b == '$':
			p.dollar(where, &l)
		case b == '"' && where.In == source.Double:
			fail(p.at, api.ErrSyntax)
		default:
			depth += p.parenthesis(where)
			p.literal(&l)
		}
	}
	return l.finish()
}

// ends reports whether the byte that is next ends the parts at a place within quotes.
func (p *parser) ends(where place, depth int) bool {
	switch {
	case where.Operand:
		return p.follows("}")
	case where.In == source.Double:
		return p.follows("\"")
	case where.In == source.Arith:
		return depth == 0 && p.follows(")")
	}
	return false
}

// parenthesis returns how the byte that is next changes the depth of parentheses.
func (p *parser) parenthesis(where place) int {
	switch {
	case where.IsArith() && p.follows("("):
		return 1
	case where.IsArith() && p.follows(")"):
		return -1
	}
	return 0
}

// literal adds the byte that is next as literal text.
func (p *parser) literal(l *list) {
	l.text = append(l.text, p.s[p.at])
	p.at++
}

// backslash parses a backslash within quotes, with the byte after it if that is not literal otherwise.
func (p *parser) backslash(where place, l *list) {
	next := p.s[p.at+1 : min(p.at+2, len(p.s))]
	switch {
	case next == "" && where.In != source.Here:
		fail(p.at, api.ErrIncomplete)
	case next == "\n":
		p.at += len("\\\n")
	case next != "" && strings.Contains(where.Special(), next):
		p.at++
		p.literal(l)
	case where.IsArith() && (next == "(" || next == ")"):
		fail(p.at, api.ErrSyntax)
	default:
		p.literal(l)
	}
}

// list is a list of parts that grows, with the literal text that follows them.
type list struct {
	parts []api.Part
	text  []byte
}

func (l *list) isEmpty() bool { return len(l.parts) == 0 && len(l.text) == 0 }

// add adds a part after the literal text.
func (l *list) add(part api.Part) {
	l.parts = append(l.finish(), part)
	l.text = nil
}

// finish returns all parts.
func (l *list) finish() []api.Part {
	if len(l.text) == 0 {
		return l.parts
	}
	return append(l.parts, api.Part{Kind: api.PText, Text: string(l.text)})
}
