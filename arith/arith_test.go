package arith_test

import (
	"math"
	"slices"
	"strings"
	"testing"

	"jobshell/api"
	"jobshell/arith"
)

func equal(a, b api.Expr) bool {
	return a.Op == b.Op && a.N == b.N && a.Name == b.Name && slices.EqualFunc(a.Kids, b.Kids, equal)
}

func num(n int) api.Expr { return api.Expr{Op: api.XNum, N: n} }

func variable(name string) api.Expr { return api.Expr{Op: api.XVar, Name: name} }

func node(op int, kids ...api.Expr) api.Expr { return api.Expr{Op: op, Kids: kids} }

func set(name string, op int, kids ...api.Expr) api.Expr {
	return api.Expr{Op: api.XSet, N: op, Name: name, Kids: kids}
}

// chain returns an XNum below negations, with the given depth.
func chain(depth int, end api.Expr) api.Expr {
	for range depth - 1 {
		end = node(api.XNeg, end)
	}
	return end
}

func TestParse(t *testing.T) {
	a, b := variable("a"), variable("b")
	long := strings.Repeat("n", api.MaxName)
	for s, want := range map[string]api.Expr{
		"": num(0), " \t\n ": num(0), "7": num(7), "0": num(0), "010": num(8), "0x1F": num(31), "0XaB": num(171), "00": num(0), " a\n": a, "_1": variable("_1"), long: variable(long),
		"9223372036854775807": num(math.MaxInt64), "0x7fffffffffffffff": num(math.MaxInt64), "0777777777777777777777": num(math.MaxInt64),
		"1+2*3":         node(api.XAdd, num(1), node(api.XMul, num(2), num(3))),
		"(1+2)*3":       node(api.XMul, node(api.XAdd, num(1), num(2)), num(3)),
		"1-2-3":         node(api.XSub, node(api.XSub, num(1), num(2)), num(3)),
		"a=b+=2":        set("a", 0, set("b", api.XAdd, num(2))),
		"a--b":          node(api.XSub, a, node(api.XNeg, b)),
		"a++b":          node(api.XAdd, a, node(api.XPlus, b)),
		"!~+-a":         node(api.XNot, node(api.XFlip, node(api.XPlus, node(api.XNeg, a)))),
		"a=-1":          set("a", 0, node(api.XNeg, num(1))),
		"a-=1":          set("a", api.XSub, num(1)),
		"a==1":          node(api.XSame, a, num(1)),
		"a<<=1":         set("a", api.XLeft, num(1)),
		"a<=1":          node(api.XAtMost, a, num(1)),
		"a&&&b":         api.Expr{},
		"a||b&&1":       node(api.XOr, a, node(api.XAnd, b, num(1))),
		"1 ? a = 2 : 3": node(api.XCond, num(1), set("a", 0, num(2)), num(3)),
		"1?2:3?4:5":     node(api.XCond, num(1), num(2), node(api.XCond, num(3), num(4), num(5))),
		"1?2?3:4:5":     node(api.XCond, num(1), node(api.XCond, num(2), num(3), num(4)), num(5)),
		"a=1?2:3":       set("a", 0, node(api.XCond, num(1), num(2), num(3))),
		"((a))":         a,
		"-a*b":          node(api.XMul, node(api.XNeg, a), b),
		"!a==b":         node(api.XSame, node(api.XNot, a), b),
	} {
		if e, _, _ := arith.Parse(s); !equal(e, want) {
			t.Errorf("Parse(%q) is %v, want %v", s, e, want)
		}
	}
}

func TestParseErrors(t *testing.T) {
	long := strings.Repeat("n", api.MaxName+1)
	big := "9223372036854775808"
	for _, c := range []struct {
		s     string
		at    int
		errno api.Errno
	}{
		{"a+b=2", 3, api.ErrSyntax}, {"1 ? 2 : a = 3", 10, api.ErrSyntax}, {"(a)=1", 3, api.ErrSyntax}, {"-a=1", 2, api.ErrSyntax}, {"1=2", 1, api.ErrSyntax}, {"a=b+c=1", 5, api.ErrSyntax}, {"a||=1", 3, api.ErrSyntax}, {"a===1", 3, api.ErrSyntax}, {"a+ +=1", 3, api.ErrSyntax},
		{"09", 0, api.ErrSyntax}, {"1a", 0, api.ErrSyntax}, {"0x", 0, api.ErrSyntax}, {"0xg", 0, api.ErrSyntax}, {"1_0", 0, api.ErrSyntax}, {"0b1", 0, api.ErrSyntax}, {"2+08", 2, api.ErrSyntax},
		{big, 0, api.ErrOverflow}, {"1+" + big, 2, api.ErrOverflow}, {"0x8000000000000000", 0, api.ErrOverflow}, {big + "a", 0, api.ErrSyntax}, {big + " 1", 0, api.ErrOverflow}, {"1 " + big, 2, api.ErrSyntax}, {"- " + big, 2, api.ErrOverflow},
		{long, 0, api.ErrName}, {long + "=1", 0, api.ErrName}, {long + "=$", 0, api.ErrName}, {"1 " + long, 2, api.ErrSyntax}, {"a=" + long + " 1", 2, api.ErrName}, {"$" + long, 0, api.ErrSyntax}, {long + "+" + big, 0, api.ErrName},
		{"1 2", 2, api.ErrSyntax}, {"(", 1, api.ErrSyntax}, {")", 0, api.ErrSyntax}, {"()", 1, api.ErrSyntax}, {"(1", 2, api.ErrSyntax}, {"(1  ", 4, api.ErrSyntax}, {"1)", 1, api.ErrSyntax}, {"1+", 2, api.ErrSyntax}, {"1 + \n", 5, api.ErrSyntax}, {"a=", 2, api.ErrSyntax}, {"1?2", 3, api.ErrSyntax}, {"1?2:", 4, api.ErrSyntax}, {"1?:3", 2, api.ErrSyntax}, {"1:2", 1, api.ErrSyntax}, {"1?(2:3)", 4, api.ErrSyntax}, {"*1", 0, api.ErrSyntax}, {"-", 1, api.ErrSyntax},
		{"a,b", 1, api.ErrSyntax}, {"a\rb", 1, api.ErrSyntax}, {"\x00", 0, api.ErrSyntax}, {"é", 0, api.ErrSyntax}, {"a\xffb", 1, api.ErrSyntax}, {"a[1]", 1, api.ErrSyntax}, {"1.5", 1, api.ErrSyntax}, {"\v", 0, api.ErrSyntax}, {"'1'", 0, api.ErrSyntax},
	} {
		if e, at, errno := arith.Parse(c.s); !equal(e, api.Expr{}) || at != c.at || errno != c.errno {
			t.Errorf("Parse(%q) is %v, %d, %d, want %d at %d", c.s, e, at, errno, c.errno, c.at)
		}
	}
}

func TestParseLimits(t *testing.T) {
	minus, half := strings.Repeat("-", api.MaxDepth), api.MaxWord/2
	for _, c := range []struct {
		s     string
		at    int
		errno api.Errno
	}{
		{minus[1:] + "1", 0, api.OK}, {minus + "1", 0, api.ErrDepth}, {minus + "1 2", api.MaxDepth + 2, api.ErrSyntax}, {minus + "08", api.MaxDepth, api.ErrSyntax}, {" " + minus + "1", 0, api.ErrDepth}, {minus, api.MaxDepth, api.ErrSyntax},
		{"1" + strings.Repeat("+1", api.MaxDepth-1), 0, api.OK}, {"1" + strings.Repeat("+1", api.MaxDepth), 0, api.ErrDepth}, {strings.Repeat("a=", api.MaxDepth-1) + "1", 0, api.OK}, {strings.Repeat("a=", api.MaxDepth) + "1", 0, api.ErrDepth}, {"1" + strings.Repeat("?1:1", api.MaxDepth), 0, api.ErrDepth},
		{strings.Repeat(" ", api.MaxWord), 0, api.OK}, {strings.Repeat(" ", api.MaxWord+1), 0, api.ErrTooLong}, {strings.Repeat(" ", api.MaxWord-1) + "1", 0, api.OK}, {strings.Repeat("$", api.MaxWord+1), 0, api.ErrTooLong}, {strings.Repeat("0", api.MaxWord), 0, api.OK}, {strings.Repeat("0", api.MaxWord+1), 0, api.ErrTooLong},
		{strings.Repeat("(", half-1) + "12" + strings.Repeat(")", half-1), 0, api.OK}, {strings.Repeat("(", api.MaxWord), api.MaxWord, api.ErrSyntax}, {strings.Repeat("-", api.MaxWord-1) + "1", 0, api.ErrDepth}, {strings.Repeat("1+", half-1) + "11", 0, api.ErrDepth}, {strings.Repeat("a=", half-1) + "11", 0, api.ErrDepth},
	} {
		if e, at, errno := arith.Parse(c.s); at != c.at || errno != c.errno || errno != api.OK && !equal(e, api.Expr{}) {
			t.Errorf("Parse(%.50q) is %v, %d, %d, want %d at %d", c.s, e, at, errno, c.errno, c.at)
		}
	}
}

func TestShow(t *testing.T) {
	a, b := variable("a"), variable("b")
	for _, c := range []struct {
		e    api.Expr
		want string
	}{
		{num(0), "0"}, {num(31), "31"}, {num(math.MaxInt64), "9223372036854775807"}, {a, "a"},
		{node(api.XNeg, node(api.XNeg, a)), "--a"}, {node(api.XPlus, node(api.XPlus, num(1))), "++1"}, {node(api.XNot, node(api.XSame, a, b)), "!(a == b)"}, {node(api.XFlip, set("a", 0, b)), "~(a = b)"},
		{node(api.XSub, a, node(api.XNeg, b)), "a - -b"}, {node(api.XMul, node(api.XNeg, a), b), "-a * b"},
		{node(api.XSub, node(api.XSub, a, b), num(1)), "a - b - 1"}, {node(api.XSub, a, node(api.XSub, b, num(1))), "a - (b - 1)"}, {node(api.XSub, a, node(api.XAdd, b, num(1))), "a - (b + 1)"}, {node(api.XMod, node(api.XMul, a, b), num(1)), "a * b % 1"},
		{node(api.XAnd, node(api.XOr, a, b), num(1)), "(a || b) && 1"}, {node(api.XOr, node(api.XAnd, a, b), num(1)), "a && b || 1"},
		{set("a", 0, set("b", api.XRight, num(2))), "a = b >>= 2"}, {set("a", api.XBitOr, node(api.XCond, a, b, num(1))), "a |= a ? b : 1"}, {node(api.XAdd, set("a", 0, num(1)), set("b", 0, num(2))), "(a = 1) + (b = 2)"},
		{node(api.XCond, set("a", 0, num(1)), set("a", 0, num(2)), set("a", 0, num(3))), "(a = 1) ? a = 2 : (a = 3)"},
		{node(api.XCond, node(api.XCond, a, b, a), node(api.XCond, a, b, a), node(api.XCond, a, b, a)), "(a ? b : a) ? a ? b : a : a ? b : a"},
		{node(api.XOr, node(api.XCond, a, b, a), node(api.XCond, a, b, a)), "(a ? b : a) || (a ? b : a)"},
	} {
		s, errno := arith.Show(c.e)
		if s != c.want || errno != api.OK {
			t.Errorf("Show(%v) is %q, %d, want %q", c.e, s, errno, c.want)
		}
		if e, _, errno := arith.Parse(s); !equal(e, c.e) || errno != api.OK {
			t.Errorf("Parse(%q) is %v, %d, want %v", s, e, errno, c.e)
		}
	}
}

func TestShowOperators(t *testing.T) {
	for text, op := range binaryOps {
		if s, errno := arith.Show(node(op, num(1), num(2))); s != "1 "+text+" 2" || errno != api.OK {
			t.Errorf("Show of the operator %d is %q, %d", op, s, errno)
		}
	}
	for text, op := range unaryOps {
		if s, errno := arith.Show(node(op, num(1))); s != text+"1" || errno != api.OK {
			t.Errorf("Show of the operator %d is %q, %d", op, s, errno)
		}
	}
	for text, op := range setOps {
		if s, errno := arith.Show(set("a", op, num(1))); s != "a "+text+" 1" || errno != api.OK {
			t.Errorf("Show of the assignment %d is %q, %d", op, s, errno)
		}
	}
}

// grow returns the trees whose root has operands of l.
func grow(l []api.Expr) []api.Expr {
	grown := slices.Clone(l)
	for _, a := range l {
		grown = append(grown, node(api.XNeg, a), node(api.XNot, a), set("x", 0, a), set("x", api.XLeft, a))
		for _, b := range l {
			for _, op := range []int{api.XOr, api.XAnd, api.XBitOr, api.XLess, api.XSub, api.XMul} {
				grown = append(grown, node(op, a, b))
			}
			grown = append(grown, node(api.XCond, a, b, num(1)), node(api.XCond, a, num(1), b), node(api.XCond, num(1), a, b))
		}
	}
	return grown
}

// withoutPair returns the strings that result from s without a pair of parentheses.
func withoutPair(s string) []string {
	var l []string
	var open []int
	for i := range len(s) {
		switch s[i] {
		case '(':
			open = append(open, i)
		case ')':
			from := open[len(open)-1]
			open = open[:len(open)-1]
			l = append(l, s[:from]+s[from+1:i]+s[i+1:])
		}
	}
	return l
}

// TestShowParentheses checks that the parentheses that Show writes are sufficient, and that each of them is necessary.
func TestShowParentheses(t *testing.T) {
	for _, e := range grow(grow([]api.Expr{variable("a")})) {
		s, errno := arith.Show(e)
		if again, _, parseErrno := arith.Parse(s); errno != api.OK || parseErrno != api.OK || !equal(again, e) {
			t.Fatalf("Show(%v) is %q, %d, which is parsed as %v", e, s, errno, again)
		}
		for _, shorter := range withoutPair(s) {
			if other, _, errno := arith.Parse(shorter); errno == api.OK && equal(other, e) {
				t.Fatalf("Show(%v) is %q, but %q has the same tree", e, s, shorter)
			}
		}
	}
}

func TestShowErrors(t *testing.T) {
	for _, e := range []api.Expr{{}, {Op: 27}, {Op: api.XNum, N: -1}, node(api.XAdd, num(1)), variable("1"), chain(api.MaxDepth+1, num(1)), node(api.XAnd, sum(28), variable("")), node(api.XAnd, chain(api.MaxDepth, num(1)), variable(""))} {
		want := arith.Valid(e)
		if s, errno := arith.Show(e); s != "" || errno != want || errno == api.OK {
			t.Errorf("Show of an invalid tree is %q, %d, want %d", s, errno, want)
		}
	}
}

// sum returns the sum of full longest names, and of names of the given sizes.
func sum(full int, sizes ...int) api.Expr {
	sizes = slices.Concat(slices.Repeat([]int{api.MaxName}, full), sizes)
	var e api.Expr
	for i, size := range sizes {
		name := variable(strings.Repeat("n", size))
		if i == 0 {
			e = name
		} else {
			e = node(api.XAdd, e, name)
		}
	}
	return e
}

func TestShowTooLong(t *testing.T) {
	long := node(api.XAnd, node(api.XAnd, node(api.XAnd, sum(28), sum(28)), sum(28)), sum(28))
	s, errno := arith.Show(long)
	if want := 4*(28*api.MaxName+27*3) + 3*4; len(s) != want || errno != api.OK {
		t.Errorf("Show has %d bytes, %d, want %d", len(s), errno, want)
	}
	for size, want := range map[int]api.Errno{14: api.OK, 15: api.OK, 16: api.ErrTooLong, 17: api.ErrTooLong, 32: api.ErrTooLong} {
		s, errno := arith.Show(node(api.XAnd, long, sum(4, 14, size)))
		if errno != want || errno == api.OK && len(s) != api.MaxWord-15+size || errno != api.OK && s != "" {
			t.Errorf("Show has %d bytes, %d, want %d", len(s), errno, want)
		}
	}
	invalid := node(api.XAnd, long, node(api.XAnd, sum(28), variable("")))
	if s, errno := arith.Show(invalid); s != "" || errno != api.ErrInvalid {
		t.Errorf("Show of an invalid tree is %q, %d", s, errno)
	}
}

// valid returns by definition whether a node without regard to its Kids is valid.
func valid(e api.Expr) api.Errno {
	kids := map[int]int{api.XNum: 0, api.XVar: 0, api.XNeg: 1, api.XPlus: 1, api.XNot: 1, api.XFlip: 1, api.XSet: 1, api.XCond: 3}
	want, ok := kids[e.Op]
	if !ok {
		want = 2
	}
	numbers := []int{0}
	switch e.Op {
	case api.XNum:
		numbers = append(numbers, 1, api.XAdd, api.XAnd, 27, math.MaxInt64)
	case api.XSet:
		numbers = append(numbers, api.XAdd, api.XSub, api.XMul, api.XDiv, api.XMod, api.XLeft, api.XRight, api.XBitAnd, api.XXor, api.XBitOr)
	}
	hasName := e.Op == api.XVar || e.Op == api.XSet
	switch {
	case e.Op < api.XNum || e.Op > api.XSet || len(e.Kids) != want || !slices.Contains(numbers, e.N) || hasName != (e.Name != ""):
		return api.ErrInvalid
	case hasName && !slices.Contains([]string{"a", "_9"}, e.Name):
		return api.ErrName
	}
	return api.OK
}

func TestValidNodes(t *testing.T) {
	numbers := []int{math.MinInt64, -1, 1, 27, math.MaxInt64}
	for op := range 27 {
		numbers = append(numbers, op)
	}
	kids := []api.Expr{num(1), num(2), num(3), num(4)}
	for op := -2; op < 29; op++ {
		for count := range 5 {
			for _, n := range numbers {
				for _, name := range []string{"", "a", "_9", "9", "a b", "é", strings.Repeat("a", api.MaxName+1)} {
					e := api.Expr{Op: op, N: n, Name: name, Kids: kids[:count]}
					if op == api.XNum && n > 1 && !slices.Contains([]int{api.XAdd, api.XAnd, 27, math.MaxInt64}, n) {
						continue
					}
					if errno := arith.Valid(e); errno != valid(e) {
						t.Errorf("Valid(%v) is %d, want %d", e, errno, valid(e))
					}
				}
			}
		}
	}
}

func TestValidOrder(t *testing.T) {
	bad, badName := api.Expr{}, variable("1")
	deep := chain(api.MaxDepth, num(1))
	for i, c := range []struct {
		e    api.Expr
		want api.Errno
	}{
		{deep, api.OK}, {node(api.XNeg, deep), api.ErrDepth}, {chain(api.MaxDepth, bad), api.ErrInvalid}, {chain(api.MaxDepth+1, bad), api.ErrDepth}, {chain(api.MaxDepth, badName), api.ErrName}, {chain(api.MaxDepth+1, badName), api.ErrDepth}, {chain(1000, num(1)), api.ErrDepth},
		{node(api.XAdd, bad, badName), api.ErrInvalid}, {node(api.XAdd, badName, bad), api.ErrName}, {node(api.XAdd, deep, bad), api.ErrDepth}, {node(api.XAdd, bad, deep), api.ErrInvalid}, {node(api.XAdd, badName, deep), api.ErrName},
		{set("1", 0, bad), api.ErrName}, {set("", 0, badName), api.ErrInvalid}, {set("1", api.XAnd, num(1)), api.ErrInvalid}, {set("a", 0, badName), api.ErrName}, {node(api.XAdd, deep), api.ErrInvalid}, {node(99, deep, deep), api.ErrInvalid},
		{node(api.XCond, num(1), node(api.XNeg, badName), bad), api.ErrName}, {node(api.XCond, num(1), num(2), bad), api.ErrInvalid}, {api.Expr{Op: api.XNum, Kids: []api.Expr{}}, api.OK},
	} {
		if errno := arith.Valid(c.e); errno != c.want {
			t.Errorf("case %d: Valid is %d, want %d", i, errno, c.want)
		}
	}
}

func TestSame(t *testing.T) {
	trees := []api.Expr{
		{}, {Op: 99}, {N: -1}, {Name: "a"}, num(0), num(1), num(-1), variable("a"), variable("b"), variable(""), node(api.XNeg, num(1)), node(api.XNeg, num(2)), node(api.XPlus, num(1)), node(api.XNeg),
		node(api.XNum, num(1)), node(api.XAdd, num(1), num(2)), node(api.XAdd, num(2), num(1)), node(api.XAdd, num(1)), node(api.XAdd, num(1), num(2), num(3)), node(api.XAdd, num(1), node(api.XNeg, num(2))),
		set("a", 0, num(1)), set("a", api.XAdd, num(1)), set("b", 0, num(1)), set("a", 0), chain(40, num(1)), chain(41, num(1)), chain(40, num(2)),
	}
	for i, a := range trees {
		for j, b := range trees {
			if same := arith.Same(a, b); same != (i == j) {
				t.Errorf("Same(%v, %v) is %v", a, b, same)
			}
		}
		other := api.Expr{Op: a.Op, N: a.N, Name: a.Name, Kids: slices.Concat(a.Kids, []api.Expr{})}
		if !arith.Same(a, other) || !arith.Same(other, a) {
			t.Errorf("Same of %v and a copy is false", a)
		}
	}
	if !arith.Same(api.Expr{Kids: []api.Expr{}}, api.Expr{}) {
		t.Error("an empty list of Kids is another than nil")
	}
}

func TestNames(t *testing.T) {
	for s, want := range map[string]string{
		"1": "", "a": "a", "b = a + b * c ? a : d": "b a c d", "a = b = a": "a b", "c+b+a": "c b a", "a ? (b = c) : -d": "a b c d", "x += y": "x y", "a+A+_a": "a A _a",
	} {
		e, _, _ := arith.Parse(s)
		if names := arith.Names(e); strings.Join(names, " ") != want {
			t.Errorf("Names of %q is %q, want %q", s, names, want)
		}
	}
	for i, c := range []struct {
		e    api.Expr
		want []string
	}{
		{api.Expr{}, nil}, {api.Expr{Op: api.XNum, Name: "a"}, nil}, {api.Expr{Op: api.XAdd, Name: "a", Kids: []api.Expr{variable("b")}}, []string{"b"}}, {variable("1"), []string{"1"}},
		{node(99, variable("b"), variable(""), variable("b"), variable("")), []string{"b", ""}}, {api.Expr{Op: api.XVar, Name: "a", Kids: []api.Expr{variable("b")}}, []string{"a", "b"}}, {set("a", 0), []string{"a"}}, {chain(100, variable("z")), []string{"z"}},
	} {
		if names := arith.Names(c.e); !slices.Equal(names, c.want) {
			t.Errorf("case %d: Names is %q, want %q", i, names, c.want)
		}
	}
}

// TestDeepTrees calls the functions with trees as deep as the bound permits.
func TestDeepTrees(t *testing.T) {
	deep := chain(1<<16, variable("a"))
	if arith.Valid(deep) != api.ErrDepth || !arith.Same(deep, chain(1<<16, variable("a"))) || arith.Same(deep, chain(1<<16, variable("b"))) || len(arith.Names(deep)) != 1 {
		t.Error("a result for a deep tree is wrong")
	}
	if s, errno := arith.Show(deep); s != "" || errno != api.ErrDepth {
		t.Errorf("Show of a deep tree is %q, %d", s, errno)
	}
}

// TestMemory checks that results share no memory with one another or with arguments, and that arguments are unchanged.
func TestMemory(t *testing.T) {
	const s = "a = b + c * 2"
	e, _, _ := arith.Parse(s)
	again, _, _ := arith.Parse(s)
	again.Kids[0].Kids[0].Name = "z"
	if shown, _ := arith.Show(e); shown != s {
		t.Errorf("after a change of another tree, Show is %q", shown)
	}
	names := arith.Names(e)
	names[0] = "z"
	if e.Name != "a" || arith.Names(e)[0] != "a" {
		t.Error("Names shares memory")
	}
	kids := []api.Expr{num(1), num(2), num(3)}
	part := api.Expr{Op: api.XAdd, Kids: kids[:2]}
	arith.Show(part)
	arith.Valid(part)
	arith.Names(part)
	arith.Same(part, part)
	if kids[0].N != 1 || kids[1].N != 2 || kids[2].N != 3 {
		t.Errorf("the argument is %v", kids)
	}
}
