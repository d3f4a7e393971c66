package words

import (
	"strings"

	"jobshell/api"
	"jobshell/chars"
	"jobshell/class"
)

// writer writes parts as source. What parts that are not valid have as their source does not matter, for Parse never returns them.
type writer struct{ strings.Builder }

// list writes the parts at a place.
func (w *writer) list(l []api.Part, where place) {
	for i, part := range l {
		w.part(part, l[i+1:], where)
	}
}

// part writes a part, after which others follow.
func (w *writer) part(part api.Part, after []api.Part, where place) {
	switch part.Kind {
	case api.PText:
		w.text(part.Text, where)
	case api.PQuoted:
		w.quoted(part.Text)
	case api.PTilde:
		w.WriteString("~")
	case api.PCommand:
		w.WriteString("$(" + part.Text + ")")
	case api.PDouble:
		w.nested("\"", part.Parts, "\"", place{in: inDouble})
	case api.PArith:
		w.nested("$((", part.Parts, "))", place{in: inArith})
	case api.PParam:
		w.parameter(part, after, where)
	}
}

// nested writes parts within other source.
func (w *writer) nested(before string, l []api.Part, behind string, where place) {
	w.WriteString(before)
	w.list(l, where)
	w.WriteString(behind)
}

// text writes literal text.
func (w *writer) text(s string, where place) {
	special := where.special()
	for i := range len(s) {
		if strings.IndexByte(special, s[i]) >= 0 {
			w.WriteByte('\\')
		}
		w.WriteByte(s[i])
	}
}

func (w *writer) quoted(s string) {
	if s == "'" {
		w.WriteString("\\'")
		return
	}
	w.WriteString("'" + s + "'")
}

// parameter writes a parameter, after which other parts follow.
func (w *writer) parameter(part api.Part, after []api.Part, where place) {
	switch {
	case part.Op == api.OpLength:
		w.WriteString("${#" + part.Text + "}")
	case 0 < part.Op && part.Op < len(operators):
		before := "${" + part.Text
		if part.Colon {
			before += ":"
		}
		w.nested(before+operators[part.Op], part.Parts, "}", place{in: where.in, operand: true})
	case needsBraces(part.Text, after):
		w.WriteString("${" + part.Text + "}")
	default:
		w.WriteString("$" + part.Text)
	}
}

// needsBraces reports whether a parameter before other parts is written in braces.
func needsBraces(text string, after []api.Part) bool {
	if !chars.Name(text) {
		return len(text) > 1
	}
	return len(after) > 0 && after[0].Kind == api.PText && after[0].Text != "" && class.Named(after[0].Text[0])
}
