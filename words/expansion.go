package words

import (
	"strings"

	"jobshell/api"
	"jobshell/chars"
	"jobshell/class"
	"jobshell/source"
)

// double parses a double-quoted string.
func (p *parser) double(where place) api.Part {
	open := p.at
	inner := nest(open, where, source.Double, false)
	p.at++
	l := p.parts(inner)
	p.expect("\"", open)
	return api.Part{Kind: api.PDouble, Parts: l}
}

// expect skips the bytes that close what begins at the offset open.
func (p *parser) expect(text string, open int) {
	if !p.accept(text) {
		p.stop(text, open)
	}
}

// stop reports that what is next does not continue what begins at the offset open, or that s ends there or within the text that was expected.
func (p *parser) stop(text string, open int) {
	if strings.HasPrefix(text, p.s[p.at:]) {
		fail(open, api.ErrIncomplete)
	}
	fail(p.at, api.ErrSyntax)
}

// backquoted parses a backquoted string.
func (p *parser) backquoted() api.Part {
	open := p.at
	quoted := p.construct()
	text := unescape(quoted[1 : len(quoted)-1])
	if strings.HasPrefix(text, "(") {
		// Without the blank it would be an arithmetic expansion.
		text = " " + text
	}
	if !source.Command(text) {
		// The end of the line ends a comment at the end of the text.
		text += "\n"
		if !source.Command(text) {
			fail(open, api.ErrSyntax)
		}
	}
	return api.Part{Kind: api.PCommand, Text: text}
}

// unescape returns the source in a backquoted string without the backslashes that quote a byte there.
func unescape(s string) string {
	var text strings.Builder
	for i := 0; i < len(s); i++ {
		if s[i] == '\\' && i+1 < len(s) && strings.IndexByte("`\\$", s[i+1]) >= 0 {
			i++
		}
		text.WriteByte(s[i])
	}
	return text.String()
}

// dollar parses an expansion, or a $ that begins none.
func (p *parser) dollar(where place, l *list) {
	switch {
	case p.follows("$(("):
		l.add(p.arith(where))
	case p.follows("$("):
		text := p.construct()
		l.add(api.Part{Kind: api.PCommand, Text: text[2 : len(text)-1]})
	case p.follows("${"):
		l.add(p.braced(where))
	case class.Parameter(p.s[p.at+1:]) > 0:
		l.add(p.parameter())
	case where.In == source.Word && (p.follows("$`") || p.follows("$\\\n")):
		fail(p.at, api.ErrSyntax)
	default:
		p.literal(l)
	}
}

// arith parses an arithmetic expansion.
func (p *parser) arith(where place) api.Part {
	open := p.at
	inner := nest(open, where, source.Arith, false)
	p.at += len("$((")
	l := p.parts(inner)
	p.expect("))", open)
	return api.Part{Kind: api.PArith, Parts: l}
}

// parameter parses a parameter without braces.
func (p *parser) parameter() api.Part {
	from := p.at
	text := p.construct()[1:]
	checkName(text, from)
	return api.Part{Kind: api.PParam, Text: text}
}

// checkName reports an error at an offset if a parameter is a name that is too long.
func checkName(text string, at int) {
	if len(text) > api.MaxName {
		fail(at, api.ErrTooLong)
	}
}

// braced parses a braced parameter.
func (p *parser) braced(where place) api.Part {
	open := p.at
	p.at += len("${")
	part := api.Part{Kind: api.PParam}
	if p.isLength() {
		p.at++
		part.Op = api.OpLength
	}
	size := parameterSize(p.s[p.at:])
	if size == 0 {
		p.stop("", open)
	}
	part.Text = p.s[p.at : p.at+size]
	checkName(part.Text, p.at)
	p.at += size
	if part.Op == api.OpNone {
		p.operation(&part, open, where)
	}
	p.expect("}", open)
	return part
}

// isLength reports whether what is next in braces is # and a parameter, and not the parameter # and an operator.
func (p *parser) isLength() bool {
	if !p.follows("#") {
		return false
	}
	rest := p.s[p.at+1:]
	size := parameterSize(rest)
	if size == 0 {
		return false
	}
	operator, _ := operatorAt(rest)
	return operator == api.OpNone || size == len(rest) || rest[size] == '}'
}

// parameterSize returns the size of the parameter that s begins with in braces, or 0.
func parameterSize(s string) int {
	size := class.Parameter(s)
	if size == 0 || !class.Digit(s[0]) {
		return size
	}
	for size < len(s) && isNumber(s[:size+1]) {
		size++
	}
	return size
}

func isNumber(s string) bool {
	_, ok := chars.Digits(s)
	return ok
}

// operation parses the operator and the operand of a parameter, if it has them.
func (p *parser) operation(part *api.Part, open int, where place) {
	from := p.at
	part.Colon = p.accept(":")
	op, size := operatorAt(p.s[p.at:])
	if part.Colon && (op == api.OpNone || op > api.OpAlternative) {
		p.stop("", open)
	}
	if op == api.OpNone {
		return
	}
	part.Op = op
	inner := nest(from, where, where.In, true)
	p.at += size
	if p.follows("\\\n") {
		fail(p.at, api.ErrSyntax)
	}
	part.Parts = p.parts(inner)
}

// operatorAt returns the longest operator that s begins with, and its size.
func operatorAt(s string) (op, size int) {
	for i := range api.OpLongPrefix + 1 {
		if text := source.Operator(i); len(text) > size && strings.HasPrefix(s, text) {
			op, size = i, len(text)
		}
	}
	return op, size
}
