// Package source writes the parts of words as source, for the layers that show, check or print them.
package source

import (
	"slices"
	"strings"

	"jobshell/api"
	"jobshell/chars"
	"jobshell/class"
	"jobshell/lexer"
)

// What surrounds parts, apart from braced parameters.
const (
	Word   = iota // nothing
	Double        // a double-quoted string
	Arith         // an arithmetic expansion
	Here          // a here-document
)

// Place says where parts are.
type Place struct {
	In      int
	Operand bool // directly in the operand of a braced parameter
}

// Special returns the bytes that a backslash quotes within quotes.
func (where Place) Special() string {
	if where.In == Word {
		return ""
	}
	special := "$`\\"
	if where.In == Double {
		special += "\""
	}
	if where.Operand {
		special += "}"
	}
	return special
}

// IsArith reports whether parentheses at a place are those of an arithmetic expansion.
func (where Place) IsArith() bool { return where.In == Arith && !where.Operand }

// operators are the operators of parameters that have an operand, by their numbers.
var operators = [10]string{"", "-", "=", "?", "+", "", "%", "%%", "#", "##"}

// Operator returns the operator of parameters with a number, or "" if no operator with an operand has it.
func Operator(op int) string {
	if op < 0 || op >= len(operators) {
		return ""
	}
	return operators[op]
}

// Command reports whether text is the source in a command substitution.
func Command(text string) bool {
	source := "$(" + text + ")"
	end, errno := lexer.Close(source, 0)
	isArith := strings.HasPrefix(text, "(")
	return errno == api.OK && end == len(source) && !isArith
}

// Of returns the source of parts at a place. What parts that are not valid have as their source does not matter, for no source is parsed as them.
func Of(l []api.Part, in int) string {
	var w writer
	w.list(l, Place{In: in})
	return w.source()
}

// Shortest returns a source of the parts of a here-document than which none is shorter.
func Shortest(l []api.Part) string {
	w := writer{short: true}
	w.list(l, Place{In: Here})
	return w.source()
}

// writer writes source from the end to the beginning, because what needs quotes depends on what follows it.
type writer struct {
	reversed []byte
	short    bool // the shortest source is written, and not the one that words.Show returns
}

func (w *writer) source() string {
	source := slices.Clone(w.reversed)
	slices.Reverse(source)
	return string(source)
}

// next returns the first byte of what follows, or 0, which is an ordinary byte, at the end.
func (w *writer) next() byte {
	if len(w.reversed) == 0 {
		return 0
	}
	return w.reversed[len(w.reversed)-1]
}

// put writes s as it is.
func (w *writer) put(s string) {
	w.quote(s, func(b, next byte) bool { return false })
}

// quote writes s, with a backslash before each byte that needs one where another byte is next.
func (w *writer) quote(s string, needs func(b, next byte) bool) {
	for i := len(s) - 1; i >= 0; i-- {
		quoted := needs(s[i], w.next())
		w.reversed = append(w.reversed, s[i])
		if quoted {
			w.reversed = append(w.reversed, '\\')
		}
	}
}

// list writes the parts at a place.
func (w *writer) list(l []api.Part, where Place) {
	for _, part := range slices.Backward(l) {
		w.part(part, where)
	}
}

func (w *writer) part(part api.Part, where Place) {
	switch part.Kind {
	case api.PText:
		w.text(part.Text, where)
	case api.PQuoted:
		w.quoted(part.Text)
	case api.PTilde:
		w.put("~")
	case api.PCommand:
		w.command(part.Text)
	case api.PDouble:
		w.nested("\"", part.Parts, "\"", Place{In: Double})
	case api.PArith:
		w.nested("$((", part.Parts, "))", Place{In: Arith})
	case api.PParam:
		w.parameter(part, where)
	}
}

// nested writes parts within other source.
func (w *writer) nested(before string, l []api.Part, behind string, where Place) {
	w.put(behind)
	w.list(l, where)
	w.put(before)
}

// text writes literal text.
func (w *writer) text(s string, where Place) {
	if w.short {
		w.quote(s, where.needsBackslash)
		return
	}
	special := where.Special()
	w.quote(s, func(b, _ byte) bool { return strings.IndexByte(special, b) >= 0 })
}

// needsBackslash reports whether a literal byte in a here-document needs a backslash where another byte is next.
func (where Place) needsBackslash(b, next byte) bool {
	switch b {
	case '`':
		return true
	case '}':
		return where.Operand
	case '$':
		return next == '{' || next == '(' || class.Parameter(string([]byte{next})) > 0
	case '\\':
		return strings.IndexByte(where.Special(), next) >= 0 || next == '\n' || where.IsArith() && (next == '(' || next == ')')
	}
	return false
}

func (w *writer) quoted(s string) {
	if s == "'" {
		w.put("\\'")
		return
	}
	w.put("'" + s + "'")
}

// command writes a command substitution.
func (w *writer) command(text string) {
	source := "$(" + text + ")"
	if w.short {
		// Of two that are equally short, the backquoted one permits that a literal $ precedes it.
		if other := backquoted(text); len(other) <= len(source) {
			source = other
		}
	}
	w.put(source)
}

// backquoted returns the shortest backquoted string for a command substitution.
func backquoted(text string) string {
	// A newline is appended where it is needed, and a blank is prepended to a parenthesis.
	if line, ok := strings.CutSuffix(text, "\n"); ok && !Command(line) {
		text = line
	}
	if strings.HasPrefix(text, " (") {
		text = text[1:]
	}
	var w writer
	w.put("`")
	w.quote(text, func(b, next byte) bool {
		return b == '`' || b == '\\' && strings.IndexByte("`\\$", next) >= 0
	})
	w.put("`")
	return w.source()
}

// parameter writes a parameter.
func (w *writer) parameter(part api.Part, where Place) {
	switch {
	case part.Op == api.OpLength:
		w.put("${#" + part.Text + "}")
	case Operator(part.Op) != "":
		before := "${" + part.Text
		if part.Colon {
			before += ":"
		}
		w.nested(before+Operator(part.Op), part.Parts, "}", Place{In: where.In, Operand: true})
	case w.needsBraces(part.Text):
		w.put("${" + part.Text + "}")
	default:
		w.put("$" + part.Text)
	}
}

// needsBraces reports whether a parameter needs braces before what follows.
func (w *writer) needsBraces(text string) bool {
	if !chars.Name(text) {
		return len(text) > 1
	}
	return class.Named(w.next())
}
