package simple

import (
	"jobshell/api"
	"jobshell/chars"
	"jobshell/lexer"
	"jobshell/words"
)

// failure is an error and its offset; the zero failure is none.
type failure struct {
	at    int
	errno api.Errno
}

// operator is a redirection operator: its number, the descriptor that it redirects without another one, and whether it is <<-. The zero operator is none.
type operator struct {
	op, fd int
	strip  bool
}

// operatorOf returns the redirection operator that a token is.
func operatorOf(token api.Token) operator {
	switch token.Text {
	case "<":
		return operator{op: api.RIn}
	case ">":
		return operator{op: api.ROut, fd: 1}
	case ">>":
		return operator{op: api.RAppend, fd: 1}
	case "<&":
		return operator{op: api.RDupIn}
	case ">&":
		return operator{op: api.RDupOut, fd: 1}
	case "<>":
		return operator{op: api.RBoth}
	case ">|":
		return operator{op: api.RClobber, fd: 1}
	case "<<":
		return operator{op: api.RHere}
	case "<<-":
		return operator{op: api.RHere, strip: true}
	}
	return operator{}
}

// beginsRedirection reports whether a token is the first one of a redirection.
func beginsRedirection(token api.Token) bool {
	return token.Kind == api.TNumber || operatorOf(token) != operator{}
}

// redirection is the tokens of a redirection; number is the zero token if there is none.
type redirection struct{ number, operator, word api.Token }

// redirectionAt returns the tokens of the redirection at an offset, or the zero redirection if another token is there.
func redirectionAt(s string, at int) (redirection, failure) {
	var t redirection
	token, problem := next(s, at)
	if problem != (failure{}) || !beginsRedirection(token) {
		return t, problem
	}
	if token.Kind == api.TNumber {
		t.number = token
		// What follows a TNumber directly begins with < or >.
		token, problem = next(s, token.End)
	}
	if problem == (failure{}) {
		t.operator = token
		t.word, problem = next(s, token.End)
	}
	return t, problem
}

// next returns the next token.
func next(s string, at int) (api.Token, failure) {
	token, errno := lexer.Next(s, at)
	if errno != api.OK {
		return api.Token{}, failure{token.Pos, errno}
	}
	return token, failure{}
}

// parse returns the redirection with these tokens, and its delimiter if it has one.
func (t redirection) parse() (api.Redir, []api.Delim, failure) {
	o := operatorOf(t.operator)
	redir := api.Redir{Pos: t.operator.Pos, Fd: o.fd, Op: o.op}
	if t.number != (api.Token{}) {
		fd, ok := chars.Digits(t.number.Text)
		if !ok {
			return api.Redir{}, nil, failure{t.number.Pos, api.ErrSyntax}
		}
		redir.Pos, redir.Fd = t.number.Pos, fd
	}
	if t.word.Kind != api.TWord {
		return api.Redir{}, nil, missing(t.word)
	}
	target, problem := wordAt(t.word.Text, t.word.Pos)
	if problem != (failure{}) {
		return api.Redir{}, nil, problem
	}
	if o.op != api.RHere {
		redir.Target = target
		return redir, nil, failure{}
	}
	text, ok := words.Literal(target.Parts)
	if !ok {
		return api.Redir{}, nil, failure{t.word.Pos, api.ErrSyntax}
	}
	return redir, []api.Delim{{Text: text, Strip: o.strip, Quoted: words.Quoted(target.Parts)}}, failure{}
}

// missing returns the failure that there is another token instead of a required one.
func missing(token api.Token) failure {
	if token.Kind == api.TEnd {
		return failure{token.Pos, api.ErrIncomplete}
	}
	return failure{token.Pos, api.ErrSyntax}
}

// wordAt returns the word with a source that is at an offset.
func wordAt(source string, at int) (api.Word, failure) {
	l, offset, errno := words.Parse(source)
	if errno != api.OK {
		return api.Word{}, failure{at + offset, errno}
	}
	return api.Word{Pos: at, Parts: l}, failure{}
}
