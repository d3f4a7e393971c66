package calc_test

import (
	"math"
	"slices"
	"testing"

	"jobshell/api"
	"jobshell/arith"
	"jobshell/calc"
)

func TestFold(t *testing.T) {
	for s, want := range map[string]string{
		"7": "7", "x": "x", "(2-5)*x": "-3 * x", "1 ? a : 1 / 0": "a", "0 ? a : b": "b", "-1 ? a : b": "a", "-0 ? a : b": "b", "x ? 1 + 1 : 2 * 3": "x ? 2 : 6", "1 ? 2 + 3 : x": "5", "1 ? x + (1 + 2) : y": "x + 3", "(1 ? 0 : 1) ? a : b": "b",
		"-5": "-5", "-0": "0", "- -5": "5", "-(-0)": "0", "+5": "5", "+-5": "-5", "!5": "0", "!0": "1", "!-5": "0", "~0": "-1", "~-1": "0", "~5": "-6", "-x": "-x", "- -x": "--x", "!!x": "!!x", "+x": "+x",
		"1 + 2 * 3": "7", "2 - 5": "-3", "x + (1 + 2)": "x + 3", "x + 1 + 2": "x + 1 + 2", "1 + 2 + x": "3 + x", "-3 * -4": "12", "7 / -2": "-3", "-7 % 2": "-1", "1 << 65": "2", "-8 >> 1": "-4", "6 & 3 | 8 ^ 1": "11", "1 < 2": "1", "2 <= 1": "0", "1 == 1": "1", "1 != 1": "0",
		"1 / 0": "1 / 0", "1 % 0": "1 % 0", "1 / (2 - 2)": "1 / 0", "(3 - 1) / (2 - 2)": "2 / 0", "1 / 0 + 1": "1 / 0 + 1", "0 * (1 / 0)": "0 * (1 / 0)", "0 / 5": "0",
		"-9223372036854775807 - 1": "-9223372036854775807 - 1", "(1 + 2) * (-9223372036854775807 - 1)": "3 * (-9223372036854775807 - 1)", "~9223372036854775807": "~9223372036854775807", "1 << 63": "1 << 63", "9223372036854775807 + 1": "9223372036854775807 + 1", "-9223372036854775807": "-9223372036854775807", "9223372036854775807 + 2": "-9223372036854775807", "-(1 << 63)": "-(1 << 63)", "1 << 63 ? a : b": "1 << 63 ? a : b", "!(1 << 63)": "!(1 << 63)", "0 && (1 << 63)": "0",
		"0 && x": "0", "0 && 1 / 0": "0", "1 && x": "1 && x", "x && 0": "x && 0", "x && 1 + 1": "x && 2", "2 && 3": "1", "-2 && -3": "1", "2 && 0": "0", "(1 - 1) && x": "0", "-0 && x": "0", "1 && 1 / 0": "1 && 1 / 0",
		"5 || x": "1", "-5 || x": "1", "5 || 1 / 0": "1", "0 || x": "0 || x", "x || 5": "x || 5", "0 || 3": "1", "0 || 0": "0", "0 || -3": "1", "0 || 1 / 0": "0 || 1 / 0", "(1 - 1) || x": "0 || x", "1 + 1 || x": "1", "x || 1 + 1": "x || 2",
		"a = 2 * 3": "a = 6", "a += 2 - 3": "a += -1", "a = b = 1 + 1": "a = b = 2", "(a = 1 + 1) + 2": "(a = 2) + 2", "a ? b = 1 + 1 : c": "a ? b = 2 : c", "!(1 < 2)": "0",
	} {
		e, _, errno := arith.Parse(s)
		if errno != api.OK {
			t.Fatalf("Parse(%q) is %d", s, errno)
		}
		folded := calc.Fold(e)
		if shown, errno := arith.Show(folded); shown != want || errno != api.OK {
			t.Errorf("Fold of %q is %q, %d, want %q", s, shown, errno, want)
		}
		if again := calc.Fold(folded); !arith.Same(again, folded) {
			t.Errorf("Fold of %q is %v, and Fold of that is %v", s, folded, again)
		}
	}
}

func isNumber(e api.Expr) bool {
	return e.Op == api.XNum || e.Op == api.XNeg && e.Kids[0].Op == api.XNum && e.Kids[0].N != 0
}

func value(e api.Expr) int {
	if e.Op == api.XNeg {
		return -e.Kids[0].N
	}
	return e.N
}

// rest reports by definition whether a node of a valid tree is one that folding leaves.
func rest(e api.Expr) bool {
	switch {
	case len(e.Kids) == 0 || e.Op == api.XSet || isNumber(e):
		return true
	case e.Op == api.XCond:
		return !isNumber(e.Kids[0])
	case e.Op == api.XAnd && isNumber(e.Kids[0]) && value(e.Kids[0]) == 0, e.Op == api.XOr && isNumber(e.Kids[0]) && value(e.Kids[0]) != 0:
		return false
	}
	for _, kid := range e.Kids {
		if !isNumber(kid) {
			return true
		}
	}
	n, _, errno := calc.Eval(e, nil)
	return errno == api.ErrZero || n == math.MinInt64
}

func allRest(e api.Expr) bool {
	for _, kid := range e.Kids {
		if !allRest(kid) {
			return false
		}
	}
	return rest(e)
}

// grow returns the trees whose root has operands of l.
func grow(l []api.Expr) []api.Expr {
	grown := slices.Clone(l)
	for _, a := range l {
		grown = append(grown, set("x", 0, a), set("x", api.XMod, a))
		for op := api.XNeg; op <= api.XFlip; op++ {
			grown = append(grown, node(op, a))
		}
		for _, b := range l {
			for op := api.XMul; op <= api.XOr; op++ {
				grown = append(grown, node(op, a, b))
			}
			grown = append(grown, node(api.XCond, a, b, num(5)), node(api.XCond, a, num(5), b))
		}
	}
	return grown
}

// checkFold checks that folding leaves nothing to fold and changes no result.
func checkFold(t *testing.T, e api.Expr, lists [][]api.Binding) {
	folded := calc.Fold(e)
	if arith.Valid(folded) != api.OK || !allRest(folded) || !arith.Same(calc.Fold(folded), folded) {
		t.Fatalf("Fold(%v) is %v", e, folded)
	}
	if rest(e) && allRest(e) && !arith.Same(folded, e) {
		t.Fatalf("Fold(%v) is %v, but nothing is to be folded", e, folded)
	}
	for _, l := range lists {
		n, out, errno := calc.Eval(e, l)
		foldedN, foldedOut, foldedErrno := calc.Eval(folded, l)
		if n != foldedN || !slices.Equal(out, foldedOut) || errno != foldedErrno {
			t.Fatalf("with %v, %v is %d, %v, %d, but %v is %d, %v, %d", l, e, n, out, errno, folded, foldedN, foldedOut, foldedErrno)
		}
	}
}

func TestFoldMeaning(t *testing.T) {
	lists := [][]api.Binding{nil, binds("x=3"), binds("x=-1 y=2"), binds("x=z")}
	small := grow([]api.Expr{num(0), num(2), variable("x"), node(api.XNeg, num(1))})
	for _, e := range small {
		checkFold(t, e, lists)
	}
	for _, e := range grow(small[:60]) {
		checkFold(t, e, lists)
	}
	for _, e := range grow(grow([]api.Expr{num(math.MaxInt64)})) {
		checkFold(t, e, lists[:1])
	}
}

func TestFoldInvalid(t *testing.T) {
	sum := node(api.XAdd, num(1), num(2))
	deep := sum
	for range api.MaxDepth - 1 {
		deep = node(api.XNeg, deep)
	}
	for i, e := range []api.Expr{{}, node(99, sum), node(api.XAdd, sum, api.Expr{}), node(api.XAdd, sum), set("1", 0, sum), set("a", api.XAnd, sum), node(api.XMul, sum, variable("")), deep, {Op: api.XNum, N: 1, Kids: []api.Expr{sum}}, {N: 7, Name: "x"}} {
		if folded := calc.Fold(e); !arith.Same(folded, e) {
			t.Errorf("case %d: Fold of an invalid tree is %v, want %v", i, folded, e)
		}
	}
	if folded := calc.Fold(deep.Kids[0]); folded.Op == api.XNeg && folded.Kids[0].Op != api.XNum {
		t.Errorf("a tree of MaxDepth levels is folded to %v", folded)
	}
}

// TestFoldMemory checks that the argument is unchanged and that the result shares no memory with it, whether it is valid or not.
func TestFoldMemory(t *testing.T) {
	for _, root := range []int{api.XSub, 99} {
		kids := []api.Expr{node(api.XMul, variable("a"), num(2)), node(api.XAdd, num(1), num(2)), num(9)}
		e := node(root, kids[:2]...)
		folded := calc.Fold(e)
		folded.Kids[0].Kids[0].Name = "z"
		folded.Kids[1].N = 8
		folded.Kids = append(folded.Kids, num(7))
		if !arith.Same(e, node(root, node(api.XMul, variable("a"), num(2)), node(api.XAdd, num(1), num(2)))) || kids[2].N != 9 {
			t.Errorf("the argument of Fold is %v", kids)
		}
	}
}
