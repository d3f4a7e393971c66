package pattern

import (
	"slices"

	"jobshell/api"
)

// char is a character of a slice of runs.
type char struct {
	b      byte
	active bool
}

// is reports whether c is an active b.
func (c char) is(b byte) bool { return c.active && c.b == b }

// Compile returns the pattern of runs.
func Compile(l []api.Run) []api.PatItem {
	chars := characters(l)
	ends := memberEnds(chars)
	var p []api.PatItem
	for at := 0; at < len(chars); {
		item, size := itemAt(chars, at, ends)
		p = append(p, item)
		at += size
	}
	return p
}

// Special reports whether runs contain pattern characters.
func Special(l []api.Run) bool { return slices.ContainsFunc(Compile(l), isSpecial) }

func characters(l []api.Run) []char {
	var chars []char
	for _, run := range l {
		switch run.Class {
		case api.CLit, api.CQuoted, api.CExpanded:
			for _, b := range []byte(run.Text) {
				chars = append(chars, char{b, run.Class != api.CQuoted})
			}
		}
	}
	return chars
}

// itemAt returns the item that begins at an index, and how many characters it has.
func itemAt(chars []char, at int, ends []int) (api.PatItem, int) {
	c := chars[at]
	switch {
	case c.is('*'):
		return api.PatItem{Kind: api.PatStar}, 1
	case c.is('?'):
		return api.PatItem{Kind: api.PatAny}, 1
	case c.is('['):
		if item, size := bracketAt(chars, at, ends); size > 0 {
			return item, size
		}
	}
	return api.PatItem{Kind: api.PatByte, Text: oneByte(c.b)}, 1
}

// oneByte returns a string of one byte: the conversion of a number would encode it as UTF-8.
func oneByte(b byte) string { return string([]byte{b}) }

// Runs returns runs of which p is the pattern.
func Runs(p []api.PatItem) []api.Run {
	if !valid(p) {
		return nil
	}
	var l []api.Run
	for _, item := range p {
		switch item.Kind {
		case api.PatStar:
			l = append(l, api.Run{Text: "*", Class: api.CLit})
		case api.PatAny:
			l = append(l, api.Run{Text: "?", Class: api.CLit})
		case api.PatSet:
			l = append(l, bracketRuns(item)...)
		default:
			l = append(l, api.Run{Text: item.Text, Class: api.CQuoted})
		}
	}
	return l
}
