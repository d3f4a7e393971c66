package arith

import (
	"strings"

	"jobshell/api"
)

// The levels of the grammar between which there are others.
const (
	levelSet    = 1
	levelCond   = 2
	levelOr     = 3
	levelUnary  = 13
	levelSingle = 14 // a constant, a name, or an expression in parentheses
)

// binary is a binary operator; assigning says that it can stand before the = of an assignment.
type binary struct {
	text      string
	op, level int
	assigning bool
}

var binaries = [18]binary{
	{"||", api.XOr, levelOr, false},
	{"&&", api.XAnd, 4, false},
	{"|", api.XBitOr, 5, true},
	{"^", api.XXor, 6, true},
	{"&", api.XBitAnd, 7, true},
	{"==", api.XSame, 8, false},
	{"!=", api.XDiffer, 8, false},
	{"<", api.XLess, 9, false},
	{">", api.XMore, 9, false},
	{"<=", api.XAtMost, 9, false},
	{">=", api.XAtLeast, 9, false},
	{"<<", api.XLeft, 10, true},
	{">>", api.XRight, 10, true},
	{"+", api.XAdd, 11, true},
	{"-", api.XSub, 11, true},
	{"*", api.XMul, 12, true},
	{"/", api.XDiv, 12, true},
	{"%", api.XMod, 12, true},
}

// binaryOf returns the binary operator with a number of api.
func binaryOf(op int) (binary, bool) {
	for _, b := range binaries {
		if b.op == op {
			return b, true
		}
	}
	return binary{}, false
}

// binaryAt returns the binary operator that is written as text.
func binaryAt(text string) (binary, bool) {
	for _, b := range binaries {
		if b.text == text {
			return b, true
		}
	}
	return binary{}, false
}

// isAssigning reports whether op is 0 or the operator of a compound assignment.
func isAssigning(op int) bool {
	b, _ := binaryOf(op)
	return b.assigning || op == 0
}

// assignmentAt returns the operator of the compound assignment that is written as text, or 0 for =, and whether there is such an assignment.
func assignmentAt(text string) (int, bool) {
	before, ok := strings.CutSuffix(text, "=")
	if !ok || before == "" {
		return 0, ok
	}
	b, _ := binaryAt(before)
	return b.op, b.assigning
}

// unaryAt returns the unary operator that is written as text.
func unaryAt(text string) (int, bool) {
	switch text {
	case "-":
		return api.XNeg, true
	case "+":
		return api.XPlus, true
	case "!":
		return api.XNot, true
	case "~":
		return api.XFlip, true
	}
	return 0, false
}

// unaryText returns how a unary operator is written.
func unaryText(op int) string {
	switch op {
	case api.XNeg:
		return "-"
	case api.XPlus:
		return "+"
	case api.XNot:
		return "!"
	}
	return "~"
}

// levelOf returns the level of an expression.
func levelOf(e api.Expr) int {
	switch e.Op {
	case api.XNum, api.XVar:
		return levelSingle
	case api.XSet:
		return levelSet
	case api.XCond:
		return levelCond
	}
	if b, ok := binaryOf(e.Op); ok {
		return b.level
	}
	return levelUnary
}
