package parse

import (
	"jobshell/api"
	"jobshell/heredoc"
	"jobshell/lexer"
	"jobshell/words"
)

// failure is an error and its offset.
type failure struct {
	at    int
	errno api.Errno
}

// parser parses a line of s from the offset at on. Its methods report an error by a panic with a failure.
type parser struct {
	s        string
	at       int
	depth    int              // at which the program is nested
	awaited  []document       // whose contents begin after the next newline
	contents map[int]api.Word // of here-documents, by the offsets of their redirections
}

// document is a here-document whose contents have not been read, of the redirection at an offset.
type document struct {
	redir int
	delim api.Delim
}

func fail(at int, errno api.Errno) { panic(failure{at, errno}) }

// peek returns the token that is next. Nothing is read beyond it, because contents of here-documents may follow it.
func (p *parser) peek() api.Token {
	token, errno := lexer.Next(p.s, p.at)
	if errno != api.OK {
		fail(token.Pos, errno)
	}
	return token
}

// take skips the token that is next, and returns it.
func (p *parser) take() api.Token {
	token := p.peek()
	p.at = token.End
	if token.Kind == api.TNewline {
		p.readDocuments()
	}
	return token
}

// accept skips the token that is next if text is its source.
func (p *parser) accept(text string) bool {
	ok := p.peek().Text == text
	if ok {
		p.take()
	}
	return ok
}

// expect skips a token that the grammar requires.
func (p *parser) expect(text string) {
	if !p.accept(text) {
		p.refuse()
	}
}

// refuse reports that the grammar does not permit the token that is next.
func (p *parser) refuse() {
	token := p.peek()
	if token.Kind == api.TEnd {
		fail(token.Pos, api.ErrIncomplete)
	}
	fail(token.Pos, api.ErrSyntax)
}

func (p *parser) newlines() {
	for p.accept("\n") {
	}
}

// await notes the here-documents among redirections, which have these delimiters.
func (p *parser) await(l []api.Redir, delims []api.Delim) {
	for _, r := range l {
		if r.Op == api.RHere {
			p.awaited = append(p.awaited, document{r.Pos, delims[0]})
			delims = delims[1:]
		}
	}
}

// readDocuments reads the contents that follow a newline.
func (p *parser) readDocuments() {
	for _, d := range p.awaited {
		p.contents[d.redir] = p.readDocument(d.delim)
	}
	p.awaited = nil
}

// readDocument reads the contents that are next.
func (p *parser) readDocument(d api.Delim) api.Word {
	w := api.Word{Pos: p.at}
	texts, end, errno := heredoc.Read(p.s, p.at, []api.Delim{d})
	if errno != api.OK {
		fail(end, errno)
	}
	w.Parts, _, errno = heredoc.Body(texts[0], d.Quoted)
	failWithin(w.Pos, errno)
	p.at = end
	p.checkCommands(w)
	return w
}

// checkCommands reports an error at a word if one of its command substitutions is not a program.
func (p *parser) checkCommands(w api.Word) {
	for _, text := range words.Commands(w.Parts) {
		if p.depth == api.MaxDepth {
			fail(w.Pos, api.ErrDepth)
		}
		_, _, errno := program(text, p.depth+1)
		failWithin(w.Pos, errno)
	}
}

// failWithin reports an error, if there is one, of a text within the program. A further line would not complete that text.
func failWithin(at int, errno api.Errno) {
	switch errno {
	case api.OK:
		return
	case api.ErrIncomplete:
		errno = api.ErrSyntax
	}
	fail(at, errno)
}

// fill sets the Targets of the here-documents in nodes.
func (p *parser) fill(l []api.Node) {
	for _, n := range l {
		for i, r := range n.Redirs {
			if r.Op == api.RHere {
				n.Redirs[i].Target = p.contents[r.Pos]
			}
		}
		p.fill(n.Kids)
		for _, item := range n.Items {
			p.fill(item.Body)
		}
	}
}
