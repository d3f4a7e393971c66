package lexer

import (
	"strings"

	"jobshell/api"
	"jobshell/class"
)

// What surrounds a byte, apart from braced parameters.
const (
	plain    = iota // nothing, or a command substitution
	inDouble        // a double-quoted string
	inArith         // an arithmetic expansion
)

// source is the text of a program. Its methods return the offset after what begins at an offset, or the offset of an error.
type source string

// Close returns the offset after the quoted string or expansion that begins at an offset.
func Close(s string, at int) (int, api.Errno) {
	switch {
	case len(s) > api.MaxText:
		return 0, api.ErrTooLong
	case at < 0 || at >= len(s) || !begins(s[at:]):
		return 0, api.ErrInvalid
	}
	return source(s).skip(at, plain)
}

// begins reports whether s begins with a quoted string or an expansion.
func begins(s string) bool {
	switch s[0] {
	case '\\', '\'', '"', '`':
		return true
	case '$':
		rest := s[1:]
		return strings.HasPrefix(rest, "{") || strings.HasPrefix(rest, "(") || class.Parameter(rest) > 0
	}
	return false
}

// skip skips a quoted string, an expansion, or another byte, which what surrounds it does not treat itself.
func (s source) skip(at, in int) (int, api.Errno) {
	switch s[at] {
	case '\'', '"':
		if in != plain {
			return at + 1, api.OK
		}
		fallthrough
	case '\\', '`':
		return s.quoted(at)
	case '$':
		return s.expansion(at, in)
	}
	return at + 1, api.OK
}

// quoted skips an escaped byte or a quoted string.
func (s source) quoted(at int) (int, api.Errno) {
	switch s[at] {
	case '\\':
		return s.escaped(at)
	case '\'':
		return s.single(at)
	case '"':
		return s.double(at)
	}
	return s.backquoted(at)
}

func (s source) escaped(open int) (int, api.Errno) {
	if open+1 == len(s) {
		return open, api.ErrIncomplete
	}
	return open + 2, api.OK
}

func (s source) single(open int) (int, api.Errno) {
	size := strings.IndexByte(string(s[open+1:]), '\'')
	if size < 0 {
		return open, api.ErrIncomplete
	}
	return open + 1 + size + 1, api.OK
}

func (s source) double(open int) (int, api.Errno) {
	at, errno := open+1, api.OK
	for at < len(s) && s[at] != '"' {
		if at, errno = s.skip(at, inDouble); errno != api.OK {
			return at, errno
		}
	}
	return s.closing(open, at)
}

func (s source) backquoted(open int) (int, api.Errno) {
	at, errno := open+1, api.OK
	for at < len(s) && s[at] != '`' {
		if s[at] != '\\' {
			at++
			continue
		}
		if at, errno = s.escaped(at); errno != api.OK {
			return at, errno
		}
	}
	return s.closing(open, at)
}

// closing skips the byte that closes what begins at the offset open.
func (s source) closing(open, at int) (int, api.Errno) {
	if at == len(s) {
		return open, api.ErrIncomplete
	}
	return at + 1, api.OK
}

// expansion skips an expansion, or a $ that begins none.
func (s source) expansion(at, in int) (int, api.Errno) {
	rest := string(s[at+1:])
	switch {
	case strings.HasPrefix(rest, "{"):
		return s.braced(at, in)
	case strings.HasPrefix(rest, "(("):
		return s.arith(at)
	case strings.HasPrefix(rest, "("):
		return s.command(at)
	}
	return at + 1 + class.Parameter(rest), api.OK
}

// braced skips a braced parameter, in which quotes mean what they mean around it.
func (s source) braced(open, in int) (int, api.Errno) {
	at, errno := open+len("${"), api.OK
	for at < len(s) && s[at] != '}' {
		if s[at] == '"' && in == inDouble {
			return at, api.ErrSyntax
		}
		if at, errno = s.skip(at, in); errno != api.OK {
			return at, errno
		}
	}
	return s.closing(open, at)
}

func (s source) arith(open int) (int, api.Errno) {
	at, errno, depth := open+len("$(("), api.OK, 0
	for at < len(s) {
		switch {
		case s[at] == '(':
			depth++
		case s[at] == ')' && depth > 0:
			depth--
		case s[at] == ')':
			return s.arithEnd(open, at)
		}
		if at, errno = s.skip(at, inArith); errno != api.OK {
			return at, errno
		}
	}
	return open, api.ErrIncomplete
}

// arithEnd skips the two parentheses at the end of an arithmetic expansion, the first of which is at the offset at.
func (s source) arithEnd(open, at int) (int, api.Errno) {
	switch {
	case at+1 == len(s):
		return open, api.ErrIncomplete
	case s[at+1] != ')':
		return at, api.ErrSyntax
	}
	return at + 2, api.OK
}

func (s source) command(open int) (int, api.Errno) {
	at, errno, depth := open+len("$("), api.OK, 0
	fresh := true // a # would begin a comment
	for at < len(s) {
		b := s[at]
		switch {
		case b == '#' && fresh:
			at = commentEnd(string(s), at)
			continue
		case b == ')' && depth == 0:
			return at + 1, api.OK
		case b == '(':
			depth++
		case b == ')':
			depth--
		}
		if !joins(string(s), at) {
			fresh = class.Border(b)
		}
		if at, errno = s.skip(at, plain); errno != api.OK {
			return at, errno
		}
	}
	return open, api.ErrIncomplete
}
