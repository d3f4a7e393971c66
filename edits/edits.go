// Package edits is layer 2: positions and edits. See shared/doc/02-edits.md.
package edits

import (
	"strings"

	"jobshell/api"
)

// Valid returns the error of a list of edits.
func Valid(s string, l []api.Edit) api.Errno {
	if len(l) > api.MaxEdits {
		return api.ErrLimit
	}
	size, last := len(s), 0
	for _, e := range l {
		if e.From < 0 || e.To < e.From || len(s) < e.To {
			return api.ErrRange
		}
		if e.From < last {
			return api.ErrState
		}
		size += growth(e)
		last = e.To
	}
	if size > api.MaxText {
		return api.ErrTooLong
	}
	return api.OK
}

// Apply returns the edited text.
func Apply(s string, l []api.Edit) (string, api.Errno) {
	if errno := Valid(s, l); errno != api.OK {
		return s, errno
	}
	var text strings.Builder
	last := 0
	for _, e := range l {
		text.WriteString(s[last:e.From])
		text.WriteString(e.Text)
		last = e.To
	}
	text.WriteString(s[last:])
	return text.String(), api.OK
}

// Invert returns the edits that undo edits.
func Invert(s string, l []api.Edit) ([]api.Edit, api.Errno) {
	if errno := Valid(s, l); errno != api.OK {
		return nil, errno
	}
	inverse := make([]api.Edit, 0, len(l))
	moved := 0
	for _, e := range l {
		from := e.From + moved
		inverse = append(inverse, api.Edit{From: from, To: from + len(e.Text), Text: s[e.From:e.To]})
		moved += growth(e)
	}
	return inverse, api.OK
}

// Shift returns where an offset goes.
func Shift(l []api.Edit, at int) int {
	moved := 0
	for _, e := range l {
		switch {
		case e.From < at && at < e.To:
			return e.From + moved
		case e.From < at:
			moved += growth(e)
		}
	}
	return at + moved
}

// Diff returns at most one edit that leads from a to b.
func Diff(a, b string) []api.Edit {
	if a == b {
		return nil
	}
	from, shorter := 0, min(len(a), len(b))
	for from < shorter && a[from] == b[from] {
		from++
	}
	// The suffix is one of the remainders: it does not reach into the prefix.
	endA, endB := len(a), len(b)
	for endA > from && endB > from && a[endA-1] == b[endB-1] {
		endA--
		endB--
	}
	return []api.Edit{{From: from, To: endA, Text: b[from:endB]}}
}

// growth returns by how many bytes an edit makes a text longer.
func growth(e api.Edit) int { return len(e.Text) - (e.To - e.From) }
