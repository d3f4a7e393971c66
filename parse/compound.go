package parse

import (
	"jobshell/api"
	"jobshell/chars"
	"jobshell/simple"
	"jobshell/words"
)

// compound parses a compound command with its redirections, and reports whether one is next.
func (p *parser) compound() (api.Node, bool) {
	token := p.peek()
	rest := p.compoundAfter(token.Text)
	if rest == nil {
		return api.Node{}, false
	}
	p.take()
	n := rest()
	n.Pos = token.Pos
	n.Redirs = p.redirections()
	return n, true
}

// compoundAfter returns the method that parses a compound command after its first token, or nil if the token begins none.
func (p *parser) compoundAfter(text string) func() api.Node {
	switch text {
	case "{":
		return p.group
	case "(":
		return p.subshell
	case "if":
		return p.conditional
	case "while":
		return p.while
	case "until":
		return p.until
	case "for":
		return p.forEach
	case "case":
		return p.selection
	}
	return nil
}

// redirections parses the redirections that are next.
func (p *parser) redirections() []api.Redir {
	var l []api.Redir
	for {
		r, delims, end, ok, errno := simple.Redirect(p.s, p.at)
		switch {
		case errno != api.OK:
			fail(end, errno)
		case !ok:
			return l
		}
		p.at = end
		l = append(l, r)
		p.await(l[len(l)-1:], delims)
		p.checkCommands(r.Target)
	}
}

func (p *parser) group() api.Node { return p.enclosed(api.NGroup, "}") }

func (p *parser) subshell() api.Node { return p.enclosed(api.NSub, ")") }

// enclosed parses a body and the token that closes it.
func (p *parser) enclosed(kind int, closing string) api.Node {
	l := p.body()
	p.expect(closing)
	return api.Node{Kind: kind, Kids: []api.Node{l}}
}

func (p *parser) conditional() api.Node {
	n := p.branches()
	p.expect("fi")
	return n
}

// branches parses an if command after if or elif, up to its end.
func (p *parser) branches() api.Node {
	condition := p.body()
	p.expect("then")
	n := api.Node{Kind: api.NIf, Kids: []api.Node{condition, p.body()}}
	pos := p.peek().Pos
	switch {
	case p.accept("elif"):
		inner := p.branches()
		inner.Pos = pos
		n.Kids = append(n.Kids, api.Node{Kind: api.NList, Pos: pos, Kids: []api.Node{inner}})
	case p.accept("else"):
		n.Kids = append(n.Kids, p.body())
	}
	return n
}

func (p *parser) while() api.Node { return p.loop(api.NWhile) }

func (p *parser) until() api.Node { return p.loop(api.NUntil) }

// loop parses a loop with a condition.
func (p *parser) loop(kind int) api.Node {
	condition := p.body()
	return api.Node{Kind: kind, Kids: []api.Node{condition, p.repeated()}}
}

// repeated parses the body of a loop.
func (p *parser) repeated() api.Node {
	p.expect("do")
	l := p.body()
	p.expect("done")
	return l
}

func (p *parser) forEach() api.Node {
	n := api.Node{Kind: api.NFor, Name: p.name()}
	if p.accept(";") {
		n.All = true
		p.newlines()
	} else {
		p.newlines()
		n.All = !p.accept("in")
	}
	if !n.All {
		n.Words = p.values()
	}
	n.Kids = []api.Node{p.repeated()}
	return n
}

// name parses a name.
func (p *parser) name() string {
	if !chars.Name(p.peek().Text) {
		p.refuse()
	}
	return p.take().Text
}

// values parses the words of a for command, with what separates them from its body.
func (p *parser) values() []api.Word {
	var l []api.Word
	for p.peek().Kind == api.TWord {
		l = append(l, p.word())
	}
	if !p.accept(";") && !p.accept("\n") {
		p.refuse()
	}
	p.newlines()
	return l
}

// word parses a word.
func (p *parser) word() api.Word {
	token := p.peek()
	if token.Kind != api.TWord {
		p.refuse()
	}
	parts, offset, errno := words.Parse(token.Text)
	if errno != api.OK {
		fail(token.Pos+offset, errno)
	}
	p.take()
	w := api.Word{Pos: token.Pos, Parts: parts}
	p.checkCommands(w)
	return w
}

func (p *parser) selection() api.Node {
	n := api.Node{Kind: api.NCase, Words: []api.Word{p.word()}}
	p.newlines()
	p.expect("in")
	p.newlines()
	for !p.accept("esac") {
		n.Items = append(n.Items, p.branch())
		if !p.accept(";;") {
			p.expect("esac")
			break
		}
		p.newlines()
	}
	return n
}

// branch parses a branch of a case command.
func (p *parser) branch() api.Item {
	p.accept("(")
	item := api.Item{Patterns: separated(p.word, p.moreInPattern)}
	p.expect(")")
	p.newlines()
	if !p.atBodyEnd() {
		item.Body = []api.Node{p.body()}
	}
	return item
}

func (p *parser) moreInPattern() bool { return p.accept("|") }
