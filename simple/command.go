package simple

import (
	"jobshell/api"
	"jobshell/head"
)

// command is a simple command that is read: its elements before the offset at, and the delimiters of its here-documents.
type command struct {
	s      string
	at     int
	node   api.Node
	delims []api.Delim
}

// element reads the next element, and reports whether there is one.
func (c *command) element() (bool, failure) {
	token, problem := next(c.s, c.at)
	if problem != (failure{}) {
		return false, problem
	}
	isFirst := c.isEmpty()
	switch {
	case token.Kind == api.TWord:
		problem = c.word(token)
	case beginsRedirection(token):
		problem = c.redirection(token.Pos)
	case isFirst:
		return false, missing(token)
	default:
		return false, failure{}
	}
	if isFirst {
		c.node.Pos = token.Pos
	}
	return true, problem
}

func (c *command) isEmpty() bool {
	return len(c.node.Assigns) == 0 && len(c.node.Words) == 0 && len(c.node.Redirs) == 0
}

// redirection reads the redirection at an offset.
func (c *command) redirection(at int) failure {
	redir, delims, end, _, errno := Redirect(c.s, at)
	if errno != api.OK {
		return failure{end, errno}
	}
	c.node.Redirs = append(c.node.Redirs, redir)
	c.delims = append(c.delims, delims...)
	c.at = end
	return failure{}
}

// word reads a word, or an assignment before the first word.
func (c *command) word(token api.Token) failure {
	c.at = token.End
	isFirst := len(c.node.Words) == 0
	if name, value, ok := Assignment(token.Text); ok && isFirst {
		return c.assignment(token.Pos, name, value)
	}
	w, problem := wordAt(token.Text, token.Pos)
	if problem != (failure{}) {
		return problem
	}
	if isFirst && !head.Begins(w.Parts) {
		return failure{token.Pos, api.ErrSyntax}
	}
	c.node.Words = append(c.node.Words, w)
	return failure{}
}

// assignment adds an assignment at an offset.
func (c *command) assignment(at int, name, value string) failure {
	w, problem := wordAt(value, at+len(name)+len("="))
	c.node.Assigns = append(c.node.Assigns, api.Assign{Pos: at, Name: name, Value: w})
	return problem
}
