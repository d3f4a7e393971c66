package alias

import (
	"strings"

	"jobshell/api"
	"jobshell/class"
	"jobshell/lexer"
	"jobshell/lines"
	"jobshell/words"
)

// examination is the examination of the tokens of a string, in which aliases are substituted.
type examination struct {
	done    strings.Builder // what has been examined
	rest    string          // what has not
	aliases []api.Alias
	values  []value         // those in which the rest begins, the innermost one last
	active  map[string]bool // the names of their aliases
	command bool            // the next token is in command position
	here    string          // the operator << or <<- whose delimiter the next token is
	delims  []api.Delim     // of the here-documents that begin after the next newline
}

// value is the value of an alias that was substituted.
type value struct {
	name   string
	behind int // how many bytes follow it, which do not change while it is examined
	blank  bool
}

// Expand returns source with its aliases substituted.
func Expand(s string, l []api.Alias) (string, api.Errno) {
	if errno := Valid(l); errno != api.OK {
		return "", errno
	}
	x := examination{rest: s, aliases: l, active: map[string]bool{}, command: true}
	for !x.isTooLong() && x.step() {
	}
	if x.isTooLong() {
		return "", api.ErrTooLong
	}
	return x.done.String() + x.rest, api.OK
}

func (x *examination) isTooLong() bool { return x.done.Len()+len(x.rest) > api.MaxText }

// step examines the next token, and reports whether there was one.
func (x *examination) step() bool {
	token, errno := lexer.Next(x.rest, 0)
	if errno != api.OK || token.Kind == api.TEnd {
		return false
	}
	x.leave(token.Pos)
	text, ok := x.substitute(token)
	if ok {
		x.replace(token, text)
	} else {
		x.pass(token)
	}
	return true
}

// leave leaves the values that end at or before the offset of a token.
func (x *examination) leave(pos int) {
	for n := len(x.values) - 1; n >= 0 && len(x.rest)-pos <= x.values[n].behind; n-- {
		x.command = x.command || x.values[n].blank
		delete(x.active, x.values[n].name)
		x.values = x.values[:n]
	}
}

// substitute returns what a token is replaced by, if it is.
func (x *examination) substitute(token api.Token) (string, bool) {
	if !x.command || token.Kind != api.TWord || x.active[token.Text] {
		return "", false
	}
	return Get(x.aliases, token.Text)
}

// replace replaces a token by the value of its alias, which is examined next.
func (x *examination) replace(token api.Token, text string) {
	behind := x.rest[token.End:]
	x.values = append(x.values, value{token.Text, len(behind), endsWithBlank(text)})
	x.active[token.Text] = true
	x.advance(token.Pos)
	x.rest = text + behind
}

func endsWithBlank(s string) bool { return s != "" && class.Blank(s[len(s)-1]) }

// advance leaves a number of bytes behind.
func (x *examination) advance(size int) {
	x.done.WriteString(x.rest[:size])
	x.rest = x.rest[size:]
}

// pass passes a token that is not replaced, and the here-documents after it.
func (x *examination) pass(token api.Token) {
	x.advance(token.End)
	x.command = separates(token) || x.command && introduces(token)
	if d, ok := x.delimiter(token); ok {
		x.delims = append(x.delims, d)
	}
	x.here = ""
	switch {
	case token.Kind == api.TNewline:
		x.skipContents()
	case token.Text == "<<" || token.Text == "<<-":
		x.here = token.Text
	}
}

// separates reports whether the token after this one is in command position, wherever this one is.
func separates(token api.Token) bool {
	switch token.Text {
	case "\n", ";", "&", "&&", "||", "|", "(":
		return true
	}
	return false
}

// introduces reports whether the token after this one is in command position, if this one is.
func introduces(token api.Token) bool {
	switch token.Text {
	case "!", "{", "do", "elif", "else", "if", "then", "until", "while":
		return true
	}
	return false
}

// delimiter returns the delimiter of a here-document, if the token after its operator is one.
func (x *examination) delimiter(token api.Token) (api.Delim, bool) {
	if x.here == "" || token.Kind != api.TWord {
		return api.Delim{}, false
	}
	parts, _, errno := words.Parse(token.Text)
	if errno != api.OK {
		return api.Delim{}, false
	}
	text, ok := words.Literal(parts)
	return api.Delim{Text: text, Strip: x.here == "<<-"}, ok
}

// skipContents skips the contents of the here-documents with which the rest begins.
func (x *examination) skipContents() {
	for _, d := range x.delims {
		_, to, ok := lines.Terminator(x.rest, 0, d)
		if !ok {
			to = len(x.rest)
		}
		x.advance(to)
	}
	x.delims = nil
}
