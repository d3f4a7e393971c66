package calc_test

import (
	"math"
	"math/big"
	"regexp"
	"slices"
	"strconv"
	"strings"
	"testing"

	"jobshell/api"
	"jobshell/arith"
	"jobshell/calc"
	"jobshell/small"
)

func num(n int) api.Expr { return api.Expr{Op: api.XNum, N: n} }

func variable(name string) api.Expr { return api.Expr{Op: api.XVar, Name: name} }

func node(op int, kids ...api.Expr) api.Expr { return api.Expr{Op: op, Kids: kids} }

func set(name string, op int, kid api.Expr) api.Expr {
	return api.Expr{Op: api.XSet, N: op, Name: name, Kids: []api.Expr{kid}}
}

// binds returns bindings, which are written as name=value and divided by blanks.
func binds(s string) []api.Binding {
	var l []api.Binding
	for _, field := range strings.Fields(s) {
		name, value, _ := strings.Cut(field, "=")
		l = append(l, api.Binding{Name: name, Value: value})
	}
	return l
}

var (
	constantForm = regexp.MustCompile(`^(0[xX][0-9a-fA-F]+|0[0-7]*|[1-9][0-9]*)$`)
	integerForm  = regexp.MustCompile(`^[+-]?(0[xX][0-9a-fA-F]+|0[0-7]*|[1-9][0-9]*)$`)
)

// number returns by definition the result of Number.
func number(s string) (int, api.Errno) {
	n, ok := new(big.Int).SetString(s, 0)
	switch {
	case !constantForm.MatchString(s) || !ok:
		return 0, api.ErrSyntax
	case !n.IsInt64():
		return 0, api.ErrOverflow
	}
	return int(n.Int64()), api.OK
}

// integer returns by definition the integer value of a string.
func integer(s string) (int, api.Errno) {
	n, ok := new(big.Int).SetString(s, 0)
	switch {
	case s == "":
		return 0, api.OK
	case !integerForm.MatchString(s) || !ok || !n.IsInt64():
		return 0, api.ErrInvalid
	}
	return int(n.Int64()), api.OK
}

// numerals returns the numbers near the limits, in several bases.
func numerals() []string {
	var l []string
	for _, power := range []uint{31, 63, 64, 65, 128} {
		for d := int64(-2); d <= 2; d++ {
			n := new(big.Int).Lsh(big.NewInt(1), power)
			n.Add(n, big.NewInt(d))
			l = append(l, n.Text(10), "0"+n.Text(8), "000"+n.Text(8), "0x"+n.Text(16), "0X0"+strings.ToUpper(n.Text(16)), n.Text(10)+"x", n.Text(10)+" ")
		}
	}
	return append(l, strings.Repeat("0", 5000), strings.Repeat("0", 5000)+"17", "0x"+strings.Repeat("0", 5000)+"1f", strings.Repeat("9", 5000), strings.Repeat("9", 5000)+"a")
}

func TestNumber(t *testing.T) {
	check := func(s string) {
		n, e := calc.Number(s)
		if wantN, wantE := number(s); n != wantN || e != wantE {
			t.Errorf("Number(%.40q) is %d, %d, want %d, %d", s, n, e, wantN, wantE)
		}
	}
	small.Each([]string{"0", "1", "7", "8", "x", "X", "a", "F", "g", "_", "-", "+", " "}, 4, check)
	for _, s := range numerals() {
		check(s)
		check("-" + s)
	}
	for b := range 256 {
		c := string([]byte{byte(b)})
		check(c)
		check("1" + c)
		check("0x" + c)
	}
	for s, want := range map[string]int{"0": 0, "010": 8, "0x1F": 31, "9223372036854775807": math.MaxInt64} {
		if n, e := calc.Number(s); n != want || e != api.OK {
			t.Errorf("Number(%q) is %d, %d, want %d", s, n, e, want)
		}
	}
}

func TestIntegerValues(t *testing.T) {
	check := func(s string) {
		l := []api.Binding{{Name: "v", Value: s}}
		n, out, e := calc.Eval(variable("v"), l)
		wantN, wantE := integer(s)
		if n != wantN || e != wantE || e == api.OK && !slices.Equal(out, l) || e != api.OK && len(out) > 0 {
			t.Errorf("the value of %.40q is %d, %.40v, %d, want %d, %d", s, n, out, e, wantN, wantE)
		}
	}
	small.Each([]string{"+", "-", "0", "1", "8", "x", "f", "_", " "}, 5, check)
	for _, s := range numerals() {
		for _, sign := range []string{"", "+", "-", "--", "+-", " "} {
			check(sign + s)
		}
	}
	for s, want := range map[string]int{"": 0, "010": 8, "-0x10": -16, "+7": 7, "-0": 0, "-9223372036854775808": math.MinInt64, "-0x8000000000000000": math.MinInt64, "-01000000000000000000000": math.MinInt64} {
		if n, _, e := calc.Text("v", []api.Binding{{Name: "v", Value: s}}); n != want || e != api.OK {
			t.Errorf("the value of %q is %d, %d, want %d", s, n, e, want)
		}
	}
}

// interesting returns numbers near the limits and near 0.
func interesting() []int {
	l := []int{math.MinInt64, math.MinInt64 + 1, math.MinInt32, math.MaxInt32, 1 << 32, 3037000499, 3037000500, 0x5555555555555555, -0x123456789abcdef, math.MaxInt64 - 1, math.MaxInt64}
	for n := -9; n <= 9; n++ {
		l = append(l, n)
	}
	return append(l, 31, 32, 62, 63, 64, 65, 127, 128, -62, -63, -64, -65)
}

// wrapped returns n modulo 2^64.
func wrapped(n *big.Int) int {
	var low big.Int
	low.And(n, new(big.Int).SetUint64(math.MaxUint64))
	return int(low.Uint64())
}

func truth(b bool) int {
	if b {
		return 1
	}
	return 0
}

// binary returns by definition the value of a binary operator.
func binary(op, a, b int) (int, api.Errno) {
	x, y := big.NewInt(int64(a)), big.NewInt(int64(b))
	z, power := new(big.Int), new(big.Int).Lsh(big.NewInt(1), uint(wrapped(y)&63))
	switch op {
	case api.XMul:
		z.Mul(x, y)
	case api.XDiv, api.XMod:
		if b == 0 {
			return 0, api.ErrZero
		}
		rest := new(big.Int)
		z.QuoRem(x, y, rest)
		if op == api.XMod {
			z = rest
		}
	case api.XAdd:
		z.Add(x, y)
	case api.XSub:
		z.Sub(x, y)
	case api.XLeft:
		z.Mul(x, power)
	case api.XRight:
		z.Div(x, power) // rounds down, as power is positive
	case api.XBitAnd:
		z.And(x, y)
	case api.XXor:
		z.Xor(x, y)
	case api.XBitOr:
		z.Or(x, y)
	default:
		holds := map[int]bool{api.XLess: a < b, api.XMore: a > b, api.XAtMost: a <= b, api.XAtLeast: a >= b, api.XSame: a == b, api.XDiffer: a != b, api.XAnd: a != 0 && b != 0, api.XOr: a != 0 || b != 0}
		return truth(holds[op]), api.OK
	}
	return wrapped(z), api.OK
}

func ab(a, b int) []api.Binding {
	return []api.Binding{{Name: "a", Value: strconv.Itoa(a)}, {Name: "b", Value: strconv.Itoa(b)}}
}

func TestBinary(t *testing.T) {
	for op := api.XMul; op <= api.XOr; op++ {
		e := node(op, variable("a"), variable("b"))
		for _, a := range interesting() {
			for _, b := range interesting() {
				n, l, errno := calc.Eval(e, ab(a, b))
				wantN, wantErrno := binary(op, a, b)
				if n != wantN || errno != wantErrno || errno == api.OK && !slices.Equal(l, ab(a, b)) {
					t.Errorf("the operator %d of %d and %d is %d, %v, %d, want %d, %d", op, a, b, n, l, errno, wantN, wantErrno)
				}
			}
		}
	}
}

func TestUnary(t *testing.T) {
	for _, a := range interesting() {
		x := big.NewInt(int64(a))
		for op, want := range map[int]int{api.XNeg: wrapped(new(big.Int).Neg(x)), api.XPlus: a, api.XNot: truth(a == 0), api.XFlip: wrapped(new(big.Int).Not(x))} {
			if n, _, errno := calc.Eval(node(op, variable("a")), ab(a, 0)); n != want || errno != api.OK {
				t.Errorf("the operator %d of %d is %d, %d, want %d", op, a, n, errno, want)
			}
		}
	}
}

func TestAssignments(t *testing.T) {
	for _, op := range []int{0, api.XMul, api.XDiv, api.XMod, api.XAdd, api.XSub, api.XLeft, api.XRight, api.XBitAnd, api.XXor, api.XBitOr} {
		for _, a := range interesting() {
			for _, b := range interesting() {
				want, wantErrno := b, api.OK
				if op != 0 {
					want, wantErrno = binary(op, a, b)
				}
				n, l, errno := calc.Eval(set("a", op, variable("b")), ab(a, b))
				if n != want || errno != wantErrno || errno == api.OK && !slices.Equal(l, ab(want, b)) || errno != api.OK && len(l) > 0 {
					t.Errorf("the assignment %d of %d to %d is %d, %v, %d, want %d, %d", op, b, a, n, l, errno, want, wantErrno)
				}
				if again, _, errno := calc.Text("a", l); errno != api.OK || wantErrno == api.OK && again != want {
					t.Errorf("after an assignment of %d, the variable is %d, %d", want, again, errno)
				}
			}
		}
	}
}

func TestText(t *testing.T) {
	for _, c := range []struct {
		s, l  string
		want  int
		after string
	}{
		{"", "", 0, ""}, {"7 / -2", "", -3, ""}, {"7 % -2", "", 1, ""}, {"-7 % 2", "", -1, ""}, {"1 << 65", "", 2, ""}, {"1 << -1", "", math.MinInt64, ""}, {"-1 >> 1", "", -1, ""}, {"9223372036854775807 + 1", "", math.MinInt64, ""},
		{"a + 1", "a=010", 9, "a=010"}, {"a + 1", "a=-0x10", -15, "a=-0x10"}, {"a + 1", "", 1, ""}, {"a + 1", "a=", 1, "a="}, {"a", "a=1 a=2 a=3", 3, "a=3"}, {"a", "a=x a=2", 2, "a=2"}, {"a", "a=5 a=", 0, "a="},
		{"a += a = 5", "", 10, "a=10"}, {"a += a = 5", "a=x", 10, "a=10"}, {"(a = 2) + (a += 3) * a", "a=9", 27, "a=5"}, {"a + (a = 5) + a", "a=1", 11, "a=5"}, {"a = a", "a=010", 8, "a=8"}, {"a = 9223372036854775807 + 1", "", math.MinInt64, "a=-9223372036854775808"}, {"a = b = 3", "", 3, "a=3 b=3"}, {"a = +5", "", 5, "a=5"},
		{"0 && (a = 1)", "", 0, ""}, {"1 && (a = 1)", "", 1, "a=1"}, {"1 && (a = 0)", "", 0, "a=0"}, {"2 && 3", "", 1, ""}, {"1 || (a = 1)", "", 1, ""}, {"0 || (a = 7)", "", 1, "a=7"}, {"0 || (a = 0)", "", 0, "a=0"}, {"5 || 1 / 0", "", 1, ""}, {"0 && 1 / 0", "", 0, ""}, {"0 && x", "x=1x", 0, "x=1x"}, {"1 || x", "x=1x", 1, "x=1x"},
		{"1 ? (a = 1) : (b = 2)", "", 1, "a=1"}, {"0 ? (a = 1) : (b = 2)", "", 2, "b=2"}, {"-1 ? 2 : x", "x=y", 2, "x=y"}, {"0 ? x : 3", "x=y", 3, "x=y"}, {"0 ? 1 / 0 : 4", "", 4, ""}, {"(a = 0) ? a : a + 1", "a=5", 1, "a=0"},
		{"b", "c=3 b=2 a=1", 2, "a=1 b=2 c=3"}, {"z = 1", "b=x a=y b=z", 1, "a=y b=z z=1"}, {"a = 1", "_=2 B=3 b=4", 1, "B=3 _=2 a=1 b=4"}, {"1", "9=x a-b=c", 1, "9=x a-b=c"},
	} {
		n, l, errno := calc.Text(c.s, binds(c.l))
		if n != c.want || errno != api.OK || !slices.Equal(l, binds(c.after)) {
			t.Errorf("Text(%q, %q) is %d, %v, %d, want %d, %q", c.s, c.l, n, l, errno, c.want, c.after)
		}
	}
}

func TestTextErrors(t *testing.T) {
	for _, c := range []struct {
		s, l string
		want api.Errno
	}{
		{"1 +", "", api.ErrSyntax}, {"1 / 0 $", "", api.ErrSyntax}, {"9223372036854775808", "", api.ErrOverflow}, {strings.Repeat("n", 33), "", api.ErrName}, {strings.Repeat("-", 32) + "1", "", api.ErrDepth}, {strings.Repeat("1", 4097), "", api.ErrTooLong},
		{"1 / 0", "", api.ErrZero}, {"1 % 0", "", api.ErrZero}, {"0 / 0", "", api.ErrZero}, {"1 / a", "", api.ErrZero}, {"a /= 0", "", api.ErrZero}, {"a %= b", "", api.ErrZero}, {"1 && 1 / 0", "", api.ErrZero}, {"0 || 1 / 0", "", api.ErrZero}, {"-(1 / 0)", "", api.ErrZero}, {"1 / 0 ? 1 : 2", "", api.ErrZero}, {"1 ? 1 / 0 : 2", "", api.ErrZero}, {"a = 1 / 0", "", api.ErrZero},
		{"x", "x=1x", api.ErrInvalid}, {"x + 1", "x=08", api.ErrInvalid}, {"x", "x=9223372036854775808", api.ErrInvalid}, {"x", "x=-9223372036854775809", api.ErrInvalid}, {"x", "x=--1", api.ErrInvalid}, {"x", "x=+", api.ErrInvalid}, {"x", "x=y y=1", api.ErrInvalid}, {"x", "x=1 x=y", api.ErrInvalid}, {"x += 1", "x=y", api.ErrInvalid}, {"1 ? x : 2", "x=y", api.ErrInvalid},
		{"x + 1 / 0", "x=y", api.ErrInvalid}, {"1 / 0 + x", "x=y", api.ErrZero}, {"x / 0", "x=y", api.ErrInvalid}, {"0 / x", "x=y", api.ErrInvalid}, {"x /= 0", "x=y", api.ErrInvalid}, {"x /= 1 / 0", "x=y", api.ErrZero}, {"x /= y", "x=1 y=z", api.ErrInvalid}, {"(a = 1) + x", "x=y", api.ErrInvalid},
	} {
		if n, l, errno := calc.Text(c.s, binds(c.l)); n != 0 || len(l) > 0 || errno != c.want {
			t.Errorf("Text(%.40q, %q) is %d, %v, %d, want %d", c.s, c.l, n, l, errno, c.want)
		}
	}
	for _, s := range []string{"\t1", "1\n", " ", "\x00", "é", "1\xff"} {
		if _, _, errno := calc.Text("x", []api.Binding{{Name: "x", Value: s}}); errno != api.ErrInvalid {
			t.Errorf("the value of %q is the error %d", s, errno)
		}
	}
}

func TestEvalInvalid(t *testing.T) {
	deep := num(1)
	for range api.MaxDepth {
		deep = node(api.XNeg, deep)
	}
	zero := node(api.XDiv, num(1), num(0))
	for i, e := range []api.Expr{{}, {Op: 27}, num(-1), variable(""), variable("1"), deep, set("a", api.XLess, num(1)), node(api.XAdd, num(1)), node(api.XAnd, num(0), api.Expr{}), node(api.XAdd, zero, variable("1")), node(api.XCond, num(1), num(2), deep)} {
		if n, l, errno := calc.Eval(e, binds("a=1")); n != 0 || len(l) > 0 || errno == api.OK || errno != arith.Valid(e) {
			t.Errorf("case %d: Eval of an invalid tree is %d, %v, %d", i, n, l, errno)
		}
	}
}

// TestEvalMemory checks that the arguments are unchanged and that results share no memory with them.
func TestEvalMemory(t *testing.T) {
	e, _, _ := arith.Parse("b = a += 2")
	all := binds("c=3 a=1 b=2 d=4 e=5")
	for range 2 {
		_, l, _ := calc.Eval(e, all[:3])
		if !slices.Equal(all, binds("c=3 a=1 b=2 d=4 e=5")) || !slices.Equal(l, binds("a=3 b=3 c=3")) {
			t.Errorf("Eval is %v, the argument %v", l, all)
		}
		for i := range l {
			l[i].Value = "z"
		}
	}
	if s, _ := arith.Show(e); s != "b = a += 2" {
		t.Errorf("the tree is %q", s)
	}
}
