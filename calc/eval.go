package calc

import "jobshell/api"

// variables is what an expression is evaluated with.
type variables struct {
	get func(name string) (int, api.Errno)
	set func(name string, n int)
}

// eval returns the value of a valid expression.
func (v variables) eval(e api.Expr) (int, api.Errno) {
	switch e.Op {
	case api.XNum:
		return e.N, api.OK
	case api.XVar:
		return v.get(e.Name)
	case api.XSet:
		return v.assign(e)
	}
	first, errno := v.eval(e.Kids[0])
	if errno != api.OK {
		return 0, errno
	}
	switch {
	case e.Op == api.XCond && first != 0:
		return v.eval(e.Kids[1])
	case e.Op == api.XCond:
		return v.eval(e.Kids[2])
	case len(e.Kids) == 1:
		return unary(e.Op, first), api.OK
	case decides(e.Op, first):
		return truth(first != 0), api.OK
	}
	second, errno := v.eval(e.Kids[1])
	if errno != api.OK {
		return 0, errno
	}
	return binary(e.Op, first, second)
}

// assign evaluates an XSet and sets its variable.
func (v variables) assign(e api.Expr) (int, api.Errno) {
	n, errno := v.eval(e.Kids[0])
	if errno == api.OK && e.N != 0 {
		n, errno = v.change(e, n)
	}
	if errno != api.OK {
		return 0, errno
	}
	v.set(e.Name, n)
	return n, api.OK
}

// change applies the operator of a compound assignment.
func (v variables) change(e api.Expr, n int) (int, api.Errno) {
	old, errno := v.get(e.Name)
	if errno != api.OK {
		return 0, errno
	}
	return binary(e.N, old, n)
}

// decides reports whether the first operand of a logical operator determines its value.
func decides(op, first int) bool {
	return op == api.XAnd && first == 0 || op == api.XOr && first != 0
}

func unary(op, a int) int {
	switch op {
	case api.XNeg:
		return -a
	case api.XNot:
		return truth(a == 0)
	case api.XFlip:
		return ^a
	}
	return a
}

func binary(op, a, b int) (int, api.Errno) {
	switch op {
	case api.XMul:
		return a * b, api.OK
	case api.XDiv, api.XMod:
		return divide(op, a, b)
	case api.XAdd:
		return a + b, api.OK
	case api.XSub:
		return a - b, api.OK
	case api.XLeft:
		return a << shift(b), api.OK
	case api.XRight:
		return a >> shift(b), api.OK
	case api.XBitAnd:
		return a & b, api.OK
	case api.XXor:
		return a ^ b, api.OK
	case api.XBitOr:
		return a | b, api.OK
	}
	return truth(holds(op, a, b)), api.OK
}

func divide(op, a, b int) (int, api.Errno) {
	switch {
	case b == 0:
		return 0, api.ErrZero
	case op == api.XMod:
		return a % b, api.OK
	}
	return a / b, api.OK
}

// shift returns by how many bits a second operand shifts.
func shift(b int) int { return b & 63 }

// holds returns the truth of a comparison or a logical operator.
func holds(op, a, b int) bool {
	switch op {
	case api.XLess:
		return a < b
	case api.XMore:
		return a > b
	case api.XAtMost:
		return a <= b
	case api.XAtLeast:
		return a >= b
	case api.XSame:
		return a == b
	case api.XDiffer:
		return a != b
	case api.XAnd:
		return a != 0 && b != 0
	}
	return a != 0 || b != 0
}

func truth(b bool) int {
	if b {
		return 1
	}
	return 0
}
