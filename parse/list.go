package parse

import (
	"jobshell/api"
	"jobshell/chars"
	"jobshell/lexer"
	"jobshell/simple"
)

// separated parses one or more items, where more skips what is between two of them and reports whether it is there.
func separated[E any](item func() E, more func() bool) []E {
	l := []E{item()}
	for more() {
		l = append(l, item())
	}
	return l
}

// line parses a line.
func (p *parser) line() []api.Node {
	var l []api.Node
	if !p.atLineEnd() {
		l = separated(p.item, p.moreInLine)
	}
	if !p.atLineEnd() {
		p.refuse()
	}
	if p.take().Kind == api.TEnd && len(p.awaited) > 0 {
		fail(len(p.s), api.ErrIncomplete)
	}
	return l
}

func (p *parser) atLineEnd() bool {
	kind := p.peek().Kind
	return kind == api.TNewline || kind == api.TEnd
}

// moreInLine skips a separator, and reports whether another and-or list follows in the line.
func (p *parser) moreInLine() bool {
	return (p.accept(";") || p.accept("&")) && !p.atLineEnd()
}

// body parses the commands in a compound command.
func (p *parser) body() api.Node {
	p.newlines()
	l := separated(p.item, p.moreInBody)
	return api.Node{Kind: api.NList, Pos: l[0].Pos, Kids: l}
}

// moreInBody skips a separator, and reports whether another and-or list follows in the body.
func (p *parser) moreInBody() bool {
	if !p.accept(";") && !p.accept("&") && !p.accept("\n") {
		return false
	}
	p.newlines()
	return !p.atBodyEnd()
}

// atBodyEnd reports whether the token that is next begins no command, but can follow one in a compound command.
func (p *parser) atBodyEnd() bool {
	token := p.peek()
	switch token.Text {
	case ")", ";;", "}", "then", "elif", "else", "fi", "do", "done", "esac":
		return true
	}
	return token.Kind == api.TEnd
}

// item parses an and-or list, which the separator behind it may put in the background.
func (p *parser) item() api.Node {
	n := p.andOr()
	if p.peek().Text == "&" {
		return api.Node{Kind: api.NBack, Pos: n.Pos, Kids: []api.Node{n}}
	}
	return n
}

// andOr parses an and-or list.
func (p *parser) andOr() api.Node {
	n := p.pipeline()
	for {
		kind := 0
		switch {
		case p.accept("&&"):
			kind = api.NAnd
		case p.accept("||"):
			kind = api.NOr
		default:
			return n
		}
		p.newlines()
		n = api.Node{Kind: kind, Pos: n.Pos, Kids: []api.Node{n, p.pipeline()}}
	}
}

// pipeline parses a pipeline.
func (p *parser) pipeline() api.Node {
	pos := p.peek().Pos
	if p.accept("!") {
		return api.Node{Kind: api.NNot, Pos: pos, Kids: []api.Node{p.pipe()}}
	}
	return p.pipe()
}

// pipe parses a pipeline without !.
func (p *parser) pipe() api.Node {
	l := separated(p.command, p.moreInPipe)
	if len(l) == 1 {
		return l[0]
	}
	return api.Node{Kind: api.NPipe, Pos: l[0].Pos, Kids: l}
}

// moreInPipe skips | and newlines, and reports whether it was there.
func (p *parser) moreInPipe() bool {
	ok := p.accept("|")
	if ok {
		p.newlines()
	}
	return ok
}

// command parses a command.
func (p *parser) command() api.Node {
	if n, ok := p.compound(); ok {
		return n
	}
	if p.beginsFunction() {
		return p.function()
	}
	return p.simple()
}

// beginsFunction reports whether a name and ( are next. An error of the token after the name is left to the simple command that would begin here.
func (p *parser) beginsFunction() bool {
	token := p.peek()
	if !chars.Name(token.Text) || lexer.Reserved(token.Text) {
		return false
	}
	next, errno := lexer.Next(p.s, token.End)
	return errno == api.OK && next.Text == "("
}

// function parses a function.
func (p *parser) function() api.Node {
	name := p.take()
	p.expect("(")
	p.expect(")")
	p.newlines()
	body, ok := p.compound()
	if !ok {
		p.refuse()
	}
	return api.Node{Kind: api.NFunc, Pos: name.Pos, Name: name.Text, Kids: []api.Node{body}}
}

// simple parses a simple command.
func (p *parser) simple() api.Node {
	n, delims, end, errno := simple.Command(p.s, p.at)
	if errno != api.OK {
		fail(end, errno)
	}
	p.at = end
	p.await(n.Redirs, delims)
	for _, a := range n.Assigns {
		p.checkCommands(a.Value)
	}
	for _, w := range n.Words {
		p.checkCommands(w)
	}
	for _, r := range n.Redirs {
		p.checkCommands(r.Target)
	}
	return n
}
