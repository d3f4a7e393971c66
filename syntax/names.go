package syntax

import (
	"slices"
	"strings"

	"jobshell/api"
	"jobshell/chars"
	"jobshell/class"
	"jobshell/head"
	"jobshell/words"
)

// wordsOf returns the words of a node, in order.
func wordsOf(n api.Node) []api.Word {
	var l []api.Word
	for _, a := range n.Assigns {
		l = append(l, a.Value)
	}
	l = append(l, n.Words...)
	for _, r := range n.Redirs {
		l = append(l, r.Target)
	}
	for _, item := range n.Items {
		l = append(l, item.Patterns...)
	}
	return l
}

// assignedBy returns the names that a node itself assigns.
func assignedBy(n api.Node) []string {
	var names []string
	for _, a := range n.Assigns {
		names = append(names, a.Name)
	}
	if n.Kind == api.NFor {
		names = append(names, n.Name)
	}
	for _, w := range wordsOf(n) {
		visitParts(w.Parts, func(p api.Part) { names = append(names, assignedIn(p)...) })
	}
	return append(names, assignedByCommand(n)...)
}

// assignedIn returns the names that a part itself assigns.
func assignedIn(p api.Part) []string {
	switch p.Kind {
	case api.PParam:
		if p.Op == api.OpAssign && chars.Name(p.Text) {
			return []string{p.Text}
		}
	case api.PArith:
		if slices.ContainsFunc(p.Parts, hasEqual) {
			return arithNames(p)
		}
	}
	return nil
}

func hasEqual(p api.Part) bool { return p.Kind == api.PText && strings.Contains(p.Text, "=") }

// assignedByCommand returns the names that a simple command assigns because of its words.
func assignedByCommand(n api.Node) []string {
	if n.Kind != api.NSimple || len(n.Words) == 0 || !assigns(head.Literal(n.Words[0].Parts)) {
		return nil
	}
	var names []string
	for _, w := range n.Words[1:] {
		value, _ := words.Literal(w.Parts)
		if name, _, _ := strings.Cut(value, "="); chars.Name(name) {
			names = append(names, name)
		}
	}
	return names
}

// assigns reports whether a command assigns to the variables that its arguments name.
func assigns(command string) bool {
	switch command {
	case "export", "getopts", "read", "readonly", "unset":
		return true
	}
	return false
}

// usedBy returns the parameters that a node itself expands.
func usedBy(n api.Node) []string {
	var names []string
	for _, w := range wordsOf(n) {
		names = append(names, words.Params(w.Parts)...)
		visitParts(w.Parts, func(p api.Part) {
			if p.Kind == api.PArith {
				names = append(names, arithNames(p)...)
			}
		})
	}
	return names
}

// visitParts calls f with all parts and the parts in them, in the order of the source.
func visitParts(l []api.Part, f func(p api.Part)) {
	for _, p := range l {
		f(p)
		visitParts(p.Parts, f)
	}
}

// arithNames returns the names in the text directly in an arithmetic expansion.
func arithNames(p api.Part) []string {
	var names []string
	for _, inner := range p.Parts {
		if inner.Kind == api.PText {
			names = append(names, strings.FieldsFunc(inner.Text, isBetweenNames)...)
		}
	}
	return slices.DeleteFunc(names, func(s string) bool { return !chars.Name(s) })
}

func isBetweenNames(r rune) bool { return r > 127 || !class.Named(byte(r)) }
