package arith

import (
	"strconv"
	"strings"

	"jobshell/api"
)

// Show returns an expression as a string.
func Show(e api.Expr) (string, api.Errno) {
	if errno := Valid(e); errno != api.OK {
		return "", errno
	}
	var w writer
	w.expr(e, levelSet)
	if w.Len() > api.MaxWord {
		return "", api.ErrTooLong
	}
	return w.String(), api.OK
}

// writer writes valid expressions.
type writer struct{ strings.Builder }

// expr writes an expression where the grammar requires at least a level.
func (w *writer) expr(e api.Expr, level int) {
	if levelOf(e) >= level {
		w.bare(e)
		return
	}
	w.WriteString("(")
	w.bare(e)
	w.WriteString(")")
}

// bare writes an expression without parentheses around it.
func (w *writer) bare(e api.Expr) {
	switch levelOf(e) {
	case levelSet:
		b, _ := binaryOf(e.N)
		w.WriteString(e.Name + " " + b.text + "= ")
		w.expr(e.Kids[0], levelSet)
	case levelCond:
		w.expr(e.Kids[0], levelOr)
		w.WriteString(" ? ")
		w.expr(e.Kids[1], levelSet)
		w.WriteString(" : ")
		w.expr(e.Kids[2], levelCond)
	case levelUnary:
		w.WriteString(unaryText(e.Op))
		w.expr(e.Kids[0], levelUnary)
	case levelSingle:
		w.WriteString(single(e))
	default:
		b, _ := binaryOf(e.Op)
		w.expr(e.Kids[0], b.level)
		w.WriteString(" " + b.text + " ")
		w.expr(e.Kids[1], b.level+1)
	}
}

// single returns a constant or a name.
func single(e api.Expr) string {
	if e.Op == api.XVar {
		return e.Name
	}
	return strconv.Itoa(e.N)
}
