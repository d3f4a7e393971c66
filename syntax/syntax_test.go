package syntax_test

import (
	"slices"
	"strings"
	"testing"

	"jobshell/api"
	"jobshell/syntax"
)

func text(s string) api.Part { return api.Part{Kind: api.PText, Text: s} }

func quoted(s string) api.Part { return api.Part{Kind: api.PQuoted, Text: s} }

func arith(l ...api.Part) api.Part { return api.Part{Kind: api.PArith, Parts: l} }

func with(s string, op int, l ...api.Part) api.Part {
	return api.Part{Kind: api.PParam, Text: s, Op: op, Parts: l}
}

func param(s string) api.Part { return with(s, api.OpNone) }

func command(s string) api.Part { return api.Part{Kind: api.PCommand, Text: s} }

func double(l ...api.Part) api.Part { return api.Part{Kind: api.PDouble, Parts: l} }

func word(l ...api.Part) api.Word { return api.Word{Parts: l} }

func texts(l ...string) []api.Word {
	var all []api.Word
	for _, s := range l {
		all = append(all, word(text(s)))
	}
	return all
}

func simple(l ...string) api.Node { return api.Node{Kind: api.NSimple, Words: texts(l...)} }

func simpleOf(l ...api.Word) api.Node { return api.Node{Kind: api.NSimple, Words: l} }

func node(kind int, kids ...api.Node) api.Node { return api.Node{Kind: kind, Kids: kids} }

func list(kids ...api.Node) api.Node { return node(api.NList, kids...) }

// withRedir returns a simple command with a redirection.
func withRedir(fd, op int, target ...api.Part) api.Node {
	return api.Node{Kind: api.NSimple, Redirs: []api.Redir{{Fd: fd, Op: op, Target: word(target...)}}}
}

// here returns a simple command with a here-document.
func here(target ...api.Part) api.Node { return withRedir(0, api.RHere, target...) }

// withAssign returns a simple command with an assignment.
func withAssign(name string, value ...api.Part) api.Node {
	return api.Node{Kind: api.NSimple, Assigns: []api.Assign{{Name: name, Value: word(value...)}}}
}

// deep returns a node of a depth that is odd.
func deep(depth int) api.Node {
	n := simple("a")
	for range depth / 2 {
		n = node(api.NSub, list(n))
	}
	return n
}

func wide(size int) api.Node {
	n := list()
	for range size - 1 {
		n.Kids = append(n.Kids, simple("a"))
	}
	return n
}

func TestValidSimple(t *testing.T) {
	name := strings.Repeat("n", api.MaxName)
	for i, n := range []api.Node{
		simple("a"), simple("a", "if", "x=1", "}"), simple("iff"), simple("1x=1"), simple(name + "n=1"), simple("=1"),
		simpleOf(word(quoted("if"))), simpleOf(word(text("if"), quoted(""))), simpleOf(word(quoted("x=1"))), simpleOf(word(text("x"), quoted("=1"))), simpleOf(word(param("x"), text("=1"))),
		simpleOf(word(double())), simpleOf(word(quoted("#"))), simpleOf(word(text("a#"))), simpleOf(word(command("if;"))),
		withAssign("x"), withAssign(name, text("#a")), withAssign("_", text("y=1"), param("x")), withAssign("if"),
		withRedir(0, api.RIn, text("f")), withRedir(api.MaxNumber, api.ROut, text("if")), withRedir(1, api.RAppend, text("x=1")), withRedir(9, api.RDupIn, text("-")), withRedir(9, api.RDupOut, param("x")), withRedir(9, api.RBoth, double()), withRedir(9, api.RClobber, quoted("#")),
	} {
		if errno := syntax.Valid(n); errno != api.OK {
			t.Errorf("Valid of the command %d is %d", i, errno)
		}
	}
	for i, n := range []api.Node{
		{}, {Kind: api.NSimple}, {Kind: api.NSimple, Kids: []api.Node{simple("a")}}, {Kind: -1, Words: texts("a")}, {Kind: 16, Words: texts("a")}, {Kind: 64, Words: texts("a")},
		simple("if"), simple("!", "a"), simple("in"), simple("x=1"), simple(name + "=1"), simpleOf(word(text("x="), quoted("1"))),
		simple(""), simple("a", ""), simple("#"), simple("a", "#b"), simple("a b"), simple("a", "b;"), simpleOf(word()), simpleOf(word(text("a")), word()), simpleOf(word(text("a"), text("b"))), simpleOf(word(api.Part{Kind: 8, Text: "a"})), simpleOf(word(api.Part{Kind: api.PText, Text: "a", Op: 1})), simpleOf(word(command(")"))),
		withAssign(""), withAssign("1"), withAssign(name + "n"), withAssign("x y"), withAssign("x", text("")), withAssign("x", text("a b")), withAssign("x", text("a"), text("b")),
		withRedir(-1, api.RIn, text("f")), withRedir(api.MaxNumber+1, api.RIn, text("f")), withRedir(0, 0, text("f")), withRedir(0, 9, text("f")), withRedir(0, -1, text("f")), withRedir(0, api.RIn), withRedir(0, api.ROut, text("#")), withRedir(0, api.RClobber, text("")), withRedir(0, api.RDupIn, text("a b")), withRedir(0, api.RIn, quoted("\n"), text("a b")),
	} {
		if errno := syntax.Valid(n); errno != api.ErrInvalid {
			t.Errorf("Valid of the wrong command %d is %d", i, errno)
		}
	}
}

func TestValidHere(t *testing.T) {
	nested := text("a")
	for range api.MaxDepth - 1 {
		nested = with("x", api.OpDefault, nested)
	}
	for i, n := range []api.Node{
		here(), here(quoted("\n")), here(quoted("x'$y\n")), here(quoted(strings.Repeat("x", 20000) + "\n")), here(text("#a b;'\"\\\n")), here(text("a")), here(text("$"), param("x"), text("\\")), here(arith(text("(1\\())")), with("x", api.OpError, text("}\"'"))), here(command("a")), here(nested),
		here(text(strings.Repeat("x", api.MaxText))), here(text(strings.Repeat("$ ", api.MaxText/2))), here(text(strings.Repeat("$x", api.MaxText/3))), here(slices.Repeat([]api.Part{command("a")}, api.MaxText/3)...), here(slices.Repeat([]api.Part{param("x")}, api.MaxText/2)...),
	} {
		if errno := syntax.Valid(n); errno != api.OK {
			t.Errorf("Valid of the here-document %d is %d", i, errno)
		}
	}
	for i, n := range []api.Node{
		here(quoted("")), here(quoted("x")), here(quoted("\nx")), here(quoted("x\n"), quoted("y\n")), here(quoted("x\n"), text("y")), here(text("x"), quoted("y\n")), here(api.Part{Kind: api.PQuoted, Text: "x\n", Op: 1}), here(api.Part{Kind: api.PQuoted, Text: "x\n", Colon: true}), here(api.Part{Kind: api.PQuoted, Text: "x\n", Parts: []api.Part{text("a")}}),
		here(text("")), here(text("a"), text("b")), here(double()), here(api.Part{Kind: api.PTilde}), here(arith(text(")"))), here(arith(text("("))), here(command(")")), here(command("(a)")), here(param("1a")), here(param("01")), here(with("x", api.OpShortSuffix, text("%"))), here(with("#", api.OpDefault)), here(with("x", 10)), here(api.Part{}), here(with("x", api.OpDefault, nested)), here(with("x", api.OpDefault, quoted("a"))),
		here(text(strings.Repeat("x", api.MaxText+1))), here(text(strings.Repeat("$ ", api.MaxText/2+1))), here(text(strings.Repeat("$x", api.MaxText/3+1))), here(slices.Repeat([]api.Part{command("a")}, api.MaxText/3+1)...), here(slices.Repeat([]api.Part{param("x")}, api.MaxText/2+1)...),
	} {
		if errno := syntax.Valid(n); errno != api.ErrInvalid {
			t.Errorf("Valid of the wrong here-document %d is %d", i, errno)
		}
	}
}

func TestValidCompound(t *testing.T) {
	body := list(simple("a"))
	item := func(l ...api.Node) api.Item { return api.Item{Patterns: texts("a", "esac"), Body: l} }
	for i, n := range []api.Node{
		{Kind: api.NFor, Name: "x", Kids: []api.Node{body}}, {Kind: api.NFor, Name: "if", All: true, Kids: []api.Node{body}}, {Kind: api.NFor, Name: "x", Words: texts("if", "x=1"), Kids: []api.Node{body}},
		{Kind: api.NCase, Words: texts("in")}, {Kind: api.NCase, Words: texts("x=1"), Items: []api.Item{item(), item(body)}},
		{Kind: api.NFunc, Name: "while", Kids: []api.Node{node(api.NGroup, body)}},
	} {
		if errno := syntax.Valid(n); errno != api.OK {
			t.Errorf("Valid of the compound command %d is %d", i, errno)
		}
	}
	for i, n := range []api.Node{
		{Kind: api.NFor, Kids: []api.Node{body}}, {Kind: api.NFor, Name: "1", Kids: []api.Node{body}}, {Kind: api.NFor, Name: "x", All: true, Words: texts("a"), Kids: []api.Node{body}}, {Kind: api.NFor, Name: "x", Words: texts("#a"), Kids: []api.Node{body}},
		{Kind: api.NCase}, {Kind: api.NCase, Words: texts("a", "b")}, {Kind: api.NCase, Words: texts("#")}, {Kind: api.NCase, Words: texts("a"), Items: []api.Item{item(), {Body: []api.Node{body}}}}, {Kind: api.NCase, Words: texts("a"), Items: []api.Item{{Patterns: texts("a", "#")}}}, {Kind: api.NCase, Words: texts("a"), Items: []api.Item{item(body, body)}}, {Kind: api.NCase, Words: texts("a"), Items: []api.Item{item(simple("a"))}}, {Kind: api.NCase, Words: texts("a"), Items: []api.Item{item(list())}},
		{Kind: api.NFunc, Name: "f-g", Kids: []api.Node{node(api.NGroup, body)}}, {Kind: api.NFunc, Kids: []api.Node{node(api.NGroup, body)}},
	} {
		if errno := syntax.Valid(n); errno != api.ErrInvalid {
			t.Errorf("Valid of the wrong compound command %d is %d", i, errno)
		}
	}
}

func TestValidLimits(t *testing.T) {
	bad := func(n api.Node) api.Node {
		n.Name = "x"
		return n
	}
	tall := list(deep(31), wide(api.MaxNodes))
	for i, c := range []struct {
		n    api.Node
		want api.Errno
	}{
		{list(deep(31)), api.OK}, {deep(33), api.ErrDepth}, {bad(deep(33)), api.ErrDepth}, {list(deep(65537)), api.ErrDepth},
		{node(api.NNot, deep(31)), api.OK}, {node(api.NBack, node(api.NNot, deep(31))), api.ErrDepth},
		{wide(api.MaxNodes), api.OK}, {wide(api.MaxNodes + 1), api.ErrLimit}, {bad(wide(api.MaxNodes + 1)), api.ErrLimit}, {bad(wide(api.MaxNodes)), api.ErrInvalid},
		{tall, api.ErrLimit}, {node(api.NGroup, tall), api.ErrDepth},
		{api.Node{Kind: api.NCase, Words: texts("a"), Items: []api.Item{{Patterns: texts("b")}, {Patterns: texts("b"), Body: []api.Node{wide(api.MaxNodes - 1)}}}}, api.OK},
		{api.Node{Kind: api.NCase, Words: texts("a"), Items: []api.Item{{Patterns: texts("b")}, {Patterns: texts("b"), Body: []api.Node{wide(api.MaxNodes)}}}}, api.ErrLimit},
		{api.Node{Kind: api.NCase, Words: texts("a"), Items: []api.Item{{Patterns: texts("b"), Body: []api.Node{list(deep(31))}}}}, api.ErrDepth},
	} {
		if errno := syntax.Valid(c.n); errno != c.want {
			t.Errorf("Valid of the node %d is %d, want %d", i, errno, c.want)
		}
	}
}

// document is a program: x=1 read y; case $x in a|b) ;; c) d; e ;; esac; f & with some positions.
func document() api.Node {
	read := simple("read", "y")
	read.Assigns = []api.Assign{{Name: "x", Value: word(text("1"))}}
	d, e, f := simple("d"), simple("e"), simple("f")
	d.Pos, e.Pos, f.Pos = 35, 38, 49
	pick := api.Node{Kind: api.NCase, Pos: 12, Words: []api.Word{word(param("x"))}, Items: []api.Item{{Patterns: texts("a", "b")}, {Patterns: texts("c"), Body: []api.Node{{Kind: api.NList, Pos: 35, Kids: []api.Node{d, e}}}}}}
	back := node(api.NBack, f)
	back.Pos = 49
	return list(read, pick, back)
}

func TestAt(t *testing.T) {
	for at, want := range map[int][]int{-1: {}, 0: {0}, 11: {0}, 12: {1}, 34: {1}, 35: {1, 0, 0}, 37: {1, 0, 0}, 38: {1, 0, 1}, 48: {1, 0, 1}, 49: {2, 0}, 1 << 40: {2, 0}} {
		if path := syntax.At(document(), at); !slices.Equal(path, want) {
			t.Errorf("At(%d) is %v, want %v", at, path, want)
		}
	}
	disorder := list(api.Node{Kind: api.NSimple, Pos: 5}, api.Node{Kind: api.NSimple, Pos: 9}, api.Node{Kind: api.NSimple, Pos: 2})
	for at, want := range map[int][]int{1: {}, 2: {2}, 5: {2}, 9: {2}} {
		if path := syntax.At(disorder, at); !slices.Equal(path, want) {
			t.Errorf("At(%d) is %v, want %v", at, path, want)
		}
	}
}

func TestKid(t *testing.T) {
	n := document()
	for _, c := range []struct {
		path []int
		want string
	}{{[]int{0}, "read"}, {[]int{1, 0, 0}, "d"}, {[]int{1, 0, 1}, "e"}, {[]int{2, 0}, "f"}} {
		if k, ok := syntax.Kid(n, c.path); !ok || k.Kind != api.NSimple || k.Words[0].Parts[0].Text != c.want {
			t.Errorf("Kid(%v) is %+v, %v", c.path, k, ok)
		}
	}
	if k, ok := syntax.Kid(n, nil); !ok || !syntax.Same(k, n) {
		t.Errorf("Kid of the empty path is %+v, %v", k, ok)
	}
	for _, path := range [][]int{{-1}, {3}, {0, 0}, {1, 1}, {1, 0, 2}, {1, 0, -1}, {2, 0, 0}, {1 << 62}, {-1 << 63}, {9, 0}} {
		if k, ok := syntax.Kid(n, path); ok || !syntax.Same(k, api.Node{}) {
			t.Errorf("Kid(%v) is %+v, %v", path, k, ok)
		}
	}
	bodies := api.Node{Kind: api.NCase, Kids: []api.Node{simple("a")}, Items: []api.Item{{Body: []api.Node{simple("b"), simple("c")}}, {}, {Body: []api.Node{simple("d")}}}}
	for i, want := range []string{"a", "b", "c", "d"} {
		if k, ok := syntax.Kid(bodies, []int{i}); !ok || k.Words[0].Parts[0].Text != want {
			t.Errorf("Kid(%d) is %+v, %v", i, k, ok)
		}
	}
}

func TestReplace(t *testing.T) {
	n := document()
	for _, c := range []struct {
		path []int
		k    api.Node
		want api.Errno
	}{
		{[]int{0}, node(api.NAnd, simple("a"), simple("b")), api.OK}, {[]int{1, 0, 1}, deep(29), api.OK}, {[]int{1, 0, 1}, deep(31), api.ErrDepth}, {nil, deep(33), api.ErrDepth}, {nil, simple("a"), api.OK}, {nil, api.Node{}, api.ErrInvalid},
		{[]int{2, 0}, list(simple("a")), api.ErrInvalid}, {[]int{1, 0}, list(simple("a")), api.OK}, {[]int{1, 0}, simple("a"), api.ErrInvalid}, {[]int{1, 0}, wide(api.MaxNodes - 5), api.OK}, {[]int{1, 0}, wide(api.MaxNodes - 4), api.ErrLimit},
		{[]int{3}, api.Node{}, api.ErrNotFound}, {[]int{0, 0}, deep(33), api.ErrNotFound}, {[]int{-1}, simple("a"), api.ErrNotFound},
	} {
		m, errno := syntax.Replace(n, c.path, c.k)
		if errno != c.want {
			t.Errorf("Replace at %v is %d, want %d", c.path, errno, c.want)
		}
		if k, ok := syntax.Kid(m, c.path); errno == api.OK && (!ok || !syntax.Same(k, c.k)) {
			t.Errorf("Replace at %v replaces by %+v", c.path, k)
		}
		if errno != api.OK && !syntax.Same(m, n) || !syntax.Same(n, document()) {
			t.Errorf("Replace at %v with an error is %+v", c.path, m)
		}
	}
	invalid := list(list())
	if m, errno := syntax.Replace(invalid, []int{0}, simple("a")); errno != api.OK || !syntax.Same(m, list(simple("a"))) {
		t.Errorf("Replace of what is not valid is %+v, %d", m, errno)
	}
	if m, errno := syntax.Replace(list(list(), simple("a")), []int{1}, simple("b")); errno != api.ErrInvalid || !syntax.Same(m, list(list(), simple("a"))) {
		t.Errorf("Replace in what is not valid is %+v, %d", m, errno)
	}
}

func TestSize(t *testing.T) {
	pipe := node(api.NPipe, simple("a"), simple("b"))
	for i, c := range []struct {
		n           api.Node
		size, depth int
	}{
		{api.Node{}, 1, 1}, {pipe, 3, 2}, {node(api.NNot, pipe), 4, 3}, {document(), 8, 4}, {deep(31), 31, 31}, {list(deep(5), deep(7), deep(3)), 16, 8},
		{api.Node{Kind: api.NCase, Kids: []api.Node{pipe}, Items: []api.Item{{Body: []api.Node{deep(3), deep(9)}}, {}, {Body: []api.Node{deep(5)}}}}, 21, 10},
	} {
		if size, depth := syntax.Size(c.n), syntax.Depth(c.n); size != c.size || depth != c.depth {
			t.Errorf("the size and the depth of the node %d are %d, %d, want %d, %d", i, size, depth, c.size, c.depth)
		}
	}
}

func TestWalk(t *testing.T) {
	kinds := ""
	for _, n := range syntax.Walk(document()) {
		kinds += " SPNAOLBGUIWTFCD"[n.Kind:][:1]
	}
	if kinds != "LSCLSSBS" {
		t.Errorf("Walk has the kinds %s", kinds)
	}
	bodies := api.Node{Pos: 1, Kids: []api.Node{{Pos: 2, Kids: []api.Node{{Pos: 3}}}, {Pos: 4}}, Items: []api.Item{{Body: []api.Node{{Pos: 5}, {Pos: 6}}}, {}, {Body: []api.Node{{Pos: 7}}}}}
	for i, n := range syntax.Walk(bodies) {
		if n.Pos != i+1 {
			t.Errorf("the node %d of Walk is %+v", i, n)
		}
	}
}

func TestAssigned(t *testing.T) {
	loop := api.Node{Kind: api.NFor, Name: "z", Kids: []api.Node{list(simpleOf(word(text(":")), word(with("w", api.OpAssign, text("2"))), word(arith(text("v=u")))))}}
	for i, c := range []struct {
		n                      api.Node
		wantAssigned, wantUses string
	}{
		{list(withAssign("x", text("1")), simple("read", "y"), loop), "u v w x y z", "u v w"},
		{simple("export", "a=1", "b", "c=d=e", "-p", "1", "=f"), "a b c", ""},
		{simple("getopts", "ab:", "opt"), "opt", ""}, {simple("getopts", "ab", "opt", "g=1"), "ab g opt", ""},
		{simple("readonly", "b", "a", "b"), "a b", ""}, {simple("unset", "-f", "f"), "f", ""}, {simple("read"), "", ""}, {simple("reads", "x"), "", ""}, {simple("echo", "read", "x"), "", ""},
		{simpleOf(word(quoted("read")), word(text("x"))), "", ""}, {simpleOf(word(text("re"), quoted("ad")), word(text("x"))), "", ""}, {simpleOf(word(double(text("read"))), word(text("x"))), "", ""},
		{simpleOf(word(text("export")), word(text("a"), double(text("b=")), quoted("c")), word(text("d="), param("e")), word(param("f")), word(quoted("g"))), "ab g", "e f"},
		{api.Node{Kind: api.NCase, Words: texts("read", "x")}, "", ""},
		{withAssign("1-x"), "1-x", ""}, {withAssign(""), "\x00", ""}, {api.Node{Kind: api.NIf, Assigns: []api.Assign{{Name: "a"}}, Items: []api.Item{{Body: []api.Node{{Kind: api.NFor, Name: "-"}}}}}, "- a", ""}, {api.Node{Kind: api.NFunc, Name: "f"}, "", ""},
		{withAssign("x", with("y", api.OpAssign, double(with("z", api.OpAssign), with("1", api.OpAssign), with("@", api.OpAssign))), with("v", api.OpDefault, with("u", api.OpAssign))), "u x y z", "1 @ u v y z"},
		{withRedir(0, api.ROut, arith(text("a"), param("b"), text("c=1d+e1 _"), arith(text("f")), command("g=1"))), "_ a c e1", "_ a b c e1 f"},
		{withRedir(0, api.ROut, arith(text("a"), param("b="), arith(text("c==d")))), "c d", "a b= c d"},
		{here(arith(with("a", api.OpDefault, text("b=1"))), text("c=$((d=1))"), with("e", api.OpLength)), "", "a e"},
		{api.Node{Kind: api.NCase, Words: []api.Word{word(with("a", api.OpAssign))}, Items: []api.Item{{Patterns: []api.Word{word(with("b", api.OpAssign)), word(arith(text("c++")))}, Body: []api.Node{list(withAssign("d"))}}}}, "a b d", "a b c"},
		{withAssign("x", arith(text("=é9ÿ"+strings.Repeat("a", 32)+" "+strings.Repeat("b", 33)+"\xffc-9d"))), "c x " + strings.Repeat("a", 32), "c " + strings.Repeat("a", 32)},
		{withAssign("x", arith(text("="+strings.Repeat("a", 32)+"\xffc"))), strings.Repeat("a", 32) + " c x", strings.Repeat("a", 32) + " c"},
	} {
		want := strings.Fields(c.wantAssigned)
		slices.Sort(want)
		if c.wantAssigned == "\x00" {
			want = []string{""}
		}
		if l := syntax.Assigned(c.n); !slices.Equal(l, want) {
			t.Errorf("Assigned of the node %d is %q, want %q", i, l, want)
		}
		uses := strings.Fields(c.wantUses)
		slices.Sort(uses)
		if l := syntax.Uses(c.n); !slices.Equal(l, uses) {
			t.Errorf("Uses of the node %d is %q, want %q", i, l, uses)
		}
	}
}
