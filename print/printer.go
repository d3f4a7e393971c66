package print

import (
	"strconv"
	"strings"

	"jobshell/api"
	"jobshell/heredoc"
	"jobshell/source"
	"jobshell/words"
)

// connectives are what is between the kids of nodes, by their kinds.
var connectives = [...]string{api.NPipe: " | ", api.NAnd: " && ", api.NOr: " || "}

// operators are the operators of redirections, by their numbers.
var operators = [...]string{
	api.RIn: "<", api.ROut: ">", api.RAppend: ">>", api.RDupIn: "<&",
	api.RDupOut: ">&", api.RBoth: "<>", api.RClobber: ">|", api.RHere: "<<",
}

// printer writes valid nodes.
type printer struct {
	text    strings.Builder
	awaited []string // the here-documents that follow the next newline, each with the line that ends it
	brief   bool     // the short form is written
}

// source returns what was written, if it is not too long.
func (p *printer) source() (string, api.Errno) {
	if p.text.Len() > api.MaxText {
		return "", api.ErrTooLong
	}
	return p.text.String(), api.OK
}

func (p *printer) put(s string) { p.text.WriteString(s) }

// newline ends a line; the short form has a blank instead.
func (p *printer) newline() {
	if p.brief {
		p.put(" ")
		return
	}
	p.put("\n")
	for _, document := range p.awaited {
		p.put(document)
	}
	p.awaited = nil
}

// line writes a string and ends the line.
func (p *printer) line(s string) {
	p.put(s)
	p.newline()
}

func (p *printer) node(n api.Node) {
	switch n.Kind {
	case api.NSimple:
		p.simple(n)
	case api.NPipe, api.NAnd, api.NOr:
		p.connected(n)
	case api.NNot:
		p.put("! ")
		p.node(n.Kids[0])
	case api.NBack:
		p.node(n.Kids[0])
		p.put(" &")
	case api.NList:
		p.list(n)
	case api.NFunc:
		p.put(n.Name + "() ")
		p.node(n.Kids[0])
	default:
		p.compound(n)
		for _, r := range n.Redirs {
			p.put(" " + p.redirection(r))
		}
	}
}

// simple writes a simple command.
func (p *printer) simple(n api.Node) {
	var l []string
	for _, a := range n.Assigns {
		l = append(l, a.Name+"="+show(a.Value))
	}
	for _, w := range n.Words {
		l = append(l, show(w))
	}
	for _, r := range n.Redirs {
		l = append(l, p.redirection(r))
	}
	p.put(strings.Join(l, " "))
}

// show returns the source of a valid word.
func show(w api.Word) string {
	s, _ := words.Show(w.Parts)
	return s
}

// connected writes kids and what is between them.
func (p *printer) connected(n api.Node) {
	for i, kid := range n.Kids {
		if i > 0 {
			p.put(connectives[n.Kind])
		}
		p.node(kid)
	}
}

// list writes the kids of a list, a line each.
func (p *printer) list(n api.Node) {
	for _, kid := range n.Kids {
		p.node(kid)
		if p.brief && kid.Kind != api.NBack {
			p.put(";")
		}
		p.newline()
	}
}

// redirection returns the source of a redirection.
func (p *printer) redirection(r api.Redir) string {
	s := operators[r.Op]
	if r.Fd != standard(r.Op) {
		s = strconv.Itoa(r.Fd) + s
	}
	switch {
	case r.Op != api.RHere:
		return s + show(r.Target)
	case p.brief:
		return s + ".."
	}
	return s + p.document(r.Target.Parts)
}

// standard returns the descriptor that an operator redirects without another one.
func standard(op int) int {
	switch op {
	case api.RIn, api.RDupIn, api.RBoth, api.RHere:
		return 0
	}
	return 1
}

// document notes the contents of a here-document, and returns the source of its delimiter.
func (p *printer) document(l []api.Part) string {
	text := contents(l)
	delimiter := heredoc.Delimiter(text)
	p.awaited = append(p.awaited, text+delimiter+"\n")
	if isQuoted(l) {
		return "'" + delimiter + "'"
	}
	return delimiter
}

// isQuoted reports whether the delimiter of the here-document with these parts is quoted.
func isQuoted(l []api.Part) bool { return len(l) == 1 && l[0].Kind == api.PQuoted }

// contents returns the lines that are parsed as the parts of a here-document.
func contents(l []api.Part) string {
	if isQuoted(l) {
		return l[0].Text
	}
	s := source.Of(l, source.Here)
	if s == "" || strings.HasSuffix(s, "\n") {
		return s
	}
	return s + "\\\n"
}
