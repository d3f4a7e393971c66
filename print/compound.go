package print

import (
	"strings"

	"jobshell/api"
)

// compound writes a compound command without its redirections.
func (p *printer) compound(n api.Node) {
	switch n.Kind {
	case api.NGroup:
		p.enclosed("{", n.Kids[0], "}")
	case api.NSub:
		p.enclosed("(", n.Kids[0], ")")
	case api.NIf:
		p.put("if ")
		p.branches(n)
		p.put("fi")
	case api.NWhile:
		p.loop("while ", n)
	case api.NUntil:
		p.loop("until ", n)
	case api.NFor:
		p.forEach(n)
	case api.NCase:
		p.selection(n)
	}
}

// enclosed writes a list between lines that enclose it.
func (p *printer) enclosed(before string, list api.Node, behind string) {
	p.line(before)
	p.list(list)
	p.put(behind)
}

// branches writes the lists of an if command after if or elif.
func (p *printer) branches(n api.Node) {
	p.list(n.Kids[0])
	p.line("then")
	p.list(n.Kids[1])
	if len(n.Kids) == 2 {
		return
	}
	if inner := n.Kids[2].Kids; len(inner) == 1 && inner[0].Kind == api.NIf && len(inner[0].Redirs) == 0 {
		p.put("elif ")
		p.branches(inner[0])
		return
	}
	p.line("else")
	p.list(n.Kids[2])
}

// loop writes a loop with a condition.
func (p *printer) loop(word string, n api.Node) {
	p.put(word)
	p.list(n.Kids[0])
	p.enclosed("do", n.Kids[1], "done")
}

func (p *printer) forEach(n api.Node) {
	p.put("for " + n.Name)
	if !n.All {
		p.put(" in")
	}
	for _, w := range n.Words {
		p.put(" " + show(w))
	}
	p.newline()
	p.enclosed("do", n.Kids[0], "done")
}

func (p *printer) selection(n api.Node) {
	p.line("case " + show(n.Words[0]) + " in")
	for _, item := range n.Items {
		p.branch(item)
	}
	p.put("esac")
}

// branch writes a branch of a case command.
func (p *printer) branch(item api.Item) {
	var patterns []string
	for _, w := range item.Patterns {
		patterns = append(patterns, show(w))
	}
	p.line("(" + strings.Join(patterns, " | ") + ")")
	for _, l := range item.Body {
		p.list(l)
	}
	p.line(";;")
}
