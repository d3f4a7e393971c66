package calc

import (
	"math"
	"slices"

	"jobshell/api"
	"jobshell/arith"
)

// Fold returns an expression whose constant parts are numbers.
func Fold(e api.Expr) api.Expr {
	if arith.Valid(e) != api.OK {
		return copied(e)
	}
	return fold(e)
}

// copied returns an expression, valid or not, in new memory.
func copied(e api.Expr) api.Expr {
	e.Kids = slices.Clone(e.Kids)
	for i, kid := range e.Kids {
		e.Kids[i] = copied(kid)
	}
	return e
}

// fold folds a valid expression, the operands first.
func fold(e api.Expr) api.Expr {
	e.Kids = slices.Clone(e.Kids)
	for i, kid := range e.Kids {
		e.Kids[i] = fold(kid)
	}
	if e.Op == api.XNum || e.Op == api.XVar || e.Op == api.XSet {
		return e
	}
	first, ok := numberOf(e.Kids[0])
	if !ok {
		return e
	}
	switch {
	case e.Op == api.XCond && first != 0:
		return e.Kids[1]
	case e.Op == api.XCond:
		return e.Kids[2]
	case decides(e.Op, first):
		return numeral(truth(first != 0))
	}
	value, ok := valueOf(e, first)
	if !ok {
		return e
	}
	return numeral(value)
}

// valueOf returns the value of an operator whose first operand is a number. There is none if the second one is not a number, or if the value could not be written as a number.
func valueOf(e api.Expr, first int) (int, bool) {
	if len(e.Kids) == 1 {
		value := unary(e.Op, first)
		return value, value != math.MinInt64
	}
	second, ok := numberOf(e.Kids[1])
	if !ok {
		return 0, false
	}
	value, errno := binary(e.Op, first, second)
	return value, errno == api.OK && value != math.MinInt64
}

// numberOf returns the value of a number: an XNum, or an XNeg of an XNum other than 0.
func numberOf(e api.Expr) (int, bool) {
	switch {
	case e.Op == api.XNum:
		return e.N, true
	case e.Op == api.XNeg && e.Kids[0].Op == api.XNum:
		return -e.Kids[0].N, e.Kids[0].N != 0
	}
	return 0, false
}

// numeral returns the number of a value above math.MinInt64.
func numeral(n int) api.Expr {
	if n < 0 {
		return api.Expr{Op: api.XNeg, Kids: []api.Expr{{Op: api.XNum, N: -n}}}
	}
	return api.Expr{Op: api.XNum, N: n}
}
