package syntax_test

import (
	"math/rand"
	"reflect"
	"regexp"
	"slices"
	"strings"
	"testing"

	"jobshell/api"
	"jobshell/syntax"
	"jobshell/words"
)

// The tests of this file compare the functions with definitions that examine nodes by reflection, and the kinds of nodes by regular expressions.

// letters are the kinds of nodes as letters.
const letters = "?SPNAOLBGUIWTFCD"

func letter(n api.Node) string {
	if n.Kind < 1 || n.Kind > 15 {
		return "?"
	}
	return letters[n.Kind : n.Kind+1]
}

// kidForms are the kinds of the kids of nodes, and fieldForms their fields besides these.
var kidForms = map[string]*regexp.Regexp{}

var fieldForms = map[string]*regexp.Regexp{}

func init() {
	for kind, form := range map[string]string{
		"S": "", "P": "[c][c]+", "N": "[cP]", "A": "[cPNAO][cPN]", "O": "[cPNAO][cPN]", "L": "[cPNAOB]+", "B": "[cPNAO]",
		"G": "L", "U": "L", "I": "LLL?", "W": "LL", "T": "LL", "F": "L", "C": "", "D": "[GUIWTFC]",
	} {
		kidForms[kind] = regexp.MustCompile("^(?:" + strings.ReplaceAll(form, "c", "SGUIWTFCD") + ")$")
	}
	for kind, form := range map[string]string{
		"S": "(a?w?r)|(a?w)|a", "P": "", "N": "", "A": "", "O": "", "L": "", "B": "", "G": "r?", "U": "r?", "I": "r?", "W": "r?", "T": "r?",
		"F": "n(l|w?)r?", "C": "wr?i?", "D": "n",
	} {
		fieldForms[kind] = regexp.MustCompile("^(?:" + form + ")$")
	}
}

// filled returns a letter for each field besides the kids that is not empty.
func filled(n api.Node) string {
	s := ""
	for i, has := range []bool{n.Name != "", n.All, len(n.Assigns) > 0, len(n.Words) > 0, len(n.Redirs) > 0, len(n.Items) > 0} {
		if has {
			s += "nlawri"[i : i+1]
		}
	}
	return s
}

// hasForm reports by definition whether a node is well formed, if its words are.
func hasForm(n api.Node) bool {
	kids := ""
	for _, k := range n.Kids {
		kids += letter(k)
		if !hasForm(k) {
			return false
		}
	}
	kind := letter(n)
	return kind != "?" && kidForms[kind].MatchString(kids) && fieldForms[kind].MatchString(filled(n))
}

// samples are valid nodes, one of each kind.
func samples() []api.Node {
	a := simple("a")
	l := list(a)
	return []api.Node{
		a, node(api.NPipe, a, a), node(api.NNot, a), node(api.NAnd, a, a), node(api.NOr, a, a), l, node(api.NBack, a), node(api.NGroup, l), node(api.NSub, l), node(api.NIf, l, l), node(api.NWhile, l, l), node(api.NUntil, l, l),
		{Kind: api.NFor, Name: "x", Kids: []api.Node{l}}, {Kind: api.NCase, Words: texts("a")}, {Kind: api.NFunc, Name: "f", Kids: []api.Node{node(api.NGroup, l)}}, {Kind: 16, Words: texts("a")}, {Kind: -1},
	}
}

func checkForm(t *testing.T, n api.Node) {
	t.Helper()
	want := map[bool]api.Errno{true: api.OK, false: api.ErrInvalid}[hasForm(n)]
	if errno := syntax.Valid(n); errno != want {
		t.Fatalf("Valid(%+v) is %d, want %d", n, errno, want)
	}
}

func TestKinds(t *testing.T) {
	for _, n := range samples() {
		n.Kids = nil
		checkForm(t, n)
		for _, a := range samples() {
			n.Kids = []api.Node{a}
			checkForm(t, n)
			for _, b := range samples() {
				n.Kids = []api.Node{a, b}
				checkForm(t, n)
				n.Kids = []api.Node{a, b, b, b}
				checkForm(t, n)
				for _, c := range samples() {
					n.Kids = []api.Node{a, b, c}
					checkForm(t, n)
				}
			}
		}
	}
}

// TestFields checks all sets of fields with nodes of all kinds.
func TestFields(t *testing.T) {
	for _, n := range samples() {
		for set := range 64 {
			n.Name, n.All, n.Assigns, n.Words, n.Redirs, n.Items = "", set&2 != 0, nil, nil, nil, nil
			if set&1 != 0 {
				n.Name = "x"
			}
			if set&4 != 0 {
				n.Assigns = []api.Assign{{Name: "x"}}
			}
			if set&8 != 0 {
				n.Words = texts("a")
			}
			if set&16 != 0 {
				n.Redirs = []api.Redir{{Op: api.RIn, Target: word(text("a"))}}
			}
			if set&32 != 0 {
				n.Items = []api.Item{{Patterns: texts("a")}}
			}
			checkForm(t, n)
			checkForm(t, node(api.NNot, node(api.NGroup, list(simple("a"), n))))
		}
	}
}

// random returns a node that is rarely valid, of at most a depth.
func random(r *rand.Rand, depth int) api.Node {
	n := api.Node{Kind: r.Intn(17), Pos: r.Intn(9), All: r.Intn(9) == 0}
	if r.Intn(2) == 0 {
		n.Kind = api.NSimple
	}
	n.Name = []string{"", "x", "y", "1", "z"}[r.Intn(5)]
	for r.Intn(3) == 0 {
		n.Assigns = append(n.Assigns, api.Assign{Pos: r.Intn(9), Name: []string{"", "u", "v", "1"}[r.Intn(4)], Value: randomWord(r)})
	}
	for r.Intn(3) > 0 {
		n.Words = append(n.Words, randomWord(r))
	}
	for r.Intn(3) == 0 {
		n.Redirs = append(n.Redirs, api.Redir{Pos: r.Intn(9), Fd: r.Intn(3), Op: r.Intn(9), Target: randomWord(r)})
	}
	for depth > 1 && r.Intn(3) > 0 {
		n.Kids = append(n.Kids, random(r, depth-1))
	}
	for depth > 1 && r.Intn(3) == 0 {
		item := api.Item{}
		for r.Intn(2) == 0 {
			item.Patterns = append(item.Patterns, randomWord(r))
		}
		for r.Intn(2) == 0 {
			item.Body = append(item.Body, random(r, depth-1))
		}
		n.Items = append(n.Items, item)
	}
	return n
}

func randomWord(r *rand.Rand) api.Word {
	sources := []string{"read", "export", "unset", "a", "b=c", "$d", "${e=f}", "${g:-${h:=i}}", "$((j=k+1l))", "$((m))$n", "\"${o=$((p=q))}\"", "$(r=s)", "${1=t}", "", "'w'x\"y\"=$z", "-r", "$((a${b}+=c))"}
	l, _, _ := words.Parse(sources[r.Intn(len(sources))])
	return api.Word{Pos: r.Intn(9), Parts: l}
}

// find returns all values of the type T in a value, also in values of that type.
func find[T any](v any) []T {
	var all []T
	var visit func(v reflect.Value)
	visit = func(v reflect.Value) {
		if found, ok := v.Interface().(T); ok {
			all = append(all, found)
		}
		switch v.Kind() {
		case reflect.Slice:
			for i := range v.Len() {
				visit(v.Index(i))
			}
		case reflect.Struct:
			for i := range v.NumField() {
				visit(v.Field(i))
			}
		}
	}
	visit(reflect.ValueOf(v))
	return all
}

var (
	nameForm = regexp.MustCompile(`^[A-Za-z_][A-Za-z_0-9]{0,31}$`)
	runForm  = regexp.MustCompile(`[A-Za-z_0-9]+`)
)

// namesIn returns the names in an arithmetic expansion.
func namesIn(p api.Part) map[string]bool {
	names := map[string]bool{}
	for _, inner := range p.Parts {
		for _, s := range runForm.FindAllString(inner.Text, -1) {
			if inner.Kind == api.PText && nameForm.MatchString(s) {
				names[s] = true
			}
		}
	}
	return names
}

func keys(set map[string]bool) []string {
	var l []string
	for s := range set {
		l = append(l, s)
	}
	slices.Sort(l)
	return l
}

// names returns by definition the results of Assigned and Uses.
func names(n api.Node) (assigned, uses []string) {
	set, used := map[string]bool{}, map[string]bool{}
	for _, p := range find[api.Part](n) {
		isSet := false
		for _, inner := range p.Parts {
			isSet = isSet || inner.Kind == api.PText && strings.Contains(inner.Text, "=")
		}
		switch {
		case p.Kind == api.PParam:
			used[p.Text] = true
			if p.Op == api.OpAssign && nameForm.MatchString(p.Text) {
				set[p.Text] = true
			}
		case p.Kind == api.PArith:
			for s := range namesIn(p) {
				used[s] = true
				set[s] = set[s] || isSet
			}
		}
	}
	for _, a := range find[api.Assign](n) {
		set[a.Name] = true
	}
	for _, m := range find[api.Node](n) {
		if m.Kind == api.NFor {
			set[m.Name] = true
		}
		if m.Kind != api.NSimple || len(m.Words) == 0 || len(m.Words[0].Parts) != 1 {
			continue
		}
		first := m.Words[0].Parts[0]
		if first.Kind != api.PText || !slices.Contains(strings.Fields("export getopts read readonly unset"), first.Text) {
			continue
		}
		for _, w := range m.Words[1:] {
			if s, ok := words.Literal(w.Parts); ok && nameForm.MatchString(strings.Split(s, "=")[0]) {
				set[strings.Split(s, "=")[0]] = true
			}
		}
	}
	for s, is := range set {
		if !is {
			delete(set, s)
		}
	}
	return keys(set), keys(used)
}

// withoutPos returns a node with the position 0 everywhere.
func withoutPos(n api.Node) api.Node {
	n, _ = syntax.Kid(n, nil)
	var visit func(v reflect.Value)
	visit = func(v reflect.Value) {
		switch v.Kind() {
		case reflect.Slice:
			for i := range v.Len() {
				visit(v.Index(i))
			}
		case reflect.Struct:
			for i := range v.NumField() {
				if v.Type().Field(i).Name == "Pos" {
					v.Field(i).SetInt(0)
				}
				visit(v.Field(i))
			}
		}
	}
	visit(reflect.ValueOf(&n).Elem())
	return n
}

// arrays returns the addresses of the arrays of all slices in a value, which are not empty.
func arrays(v any) []uintptr {
	var all []uintptr
	var visit func(v reflect.Value)
	visit = func(v reflect.Value) {
		switch v.Kind() {
		case reflect.Slice:
			if v.Cap() > 0 {
				all = append(all, v.Pointer())
			}
			for i := range v.Len() {
				visit(v.Index(i))
			}
		case reflect.Struct:
			for i := range v.NumField() {
				visit(v.Field(i))
			}
		}
	}
	visit(reflect.ValueOf(v))
	return all
}

// checkMemory checks that no two slices of a result and of the arguments share memory.
func checkMemory(t *testing.T, values ...any) {
	t.Helper()
	seen := map[uintptr]bool{}
	for _, v := range values {
		for _, p := range arrays(v) {
			if seen[p] {
				t.Fatalf("memory is shared in %+v", values)
			}
			seen[p] = true
		}
	}
}

// checkTree checks Size, Depth, Walk, Kid, Same and At for a node.
func checkTree(t *testing.T, n api.Node) {
	t.Helper()
	want := find[api.Node](n)
	all := syntax.Walk(n)
	if !reflect.DeepEqual(all, want) || syntax.Size(n) != len(want) {
		t.Fatalf("Walk(%+v) is %+v, and Size %d", n, all, syntax.Size(n))
	}
	checkMemory(t, n, all)
	depth := 0
	for i, path := range paths(n) {
		k, ok := syntax.Kid(n, path)
		if !ok || !reflect.DeepEqual(k, want[i]) {
			t.Fatalf("Kid(%+v, %v) is %+v, %v, want %+v", n, path, k, ok, want[i])
		}
		checkMemory(t, n, k)
		depth = max(depth, len(path)+1)
	}
	if syntax.Depth(n) != depth {
		t.Fatalf("Depth(%+v) is %d", n, syntax.Depth(n))
	}
	for at := -1; at < 10; at++ {
		if path := syntax.At(n, at); !slices.Equal(path, pathAt(n, at)) {
			t.Fatalf("At(%+v, %d) is %v", n, at, path)
		}
	}
}

// kids returns the child nodes of a node.
func kids(n api.Node) []api.Node {
	l := append([]api.Node{}, n.Kids...)
	for _, item := range n.Items {
		l = append(l, item.Body...)
	}
	return l
}

// paths returns the paths of all nodes, in preorder.
func paths(n api.Node) [][]int {
	all := [][]int{{}}
	for i, k := range kids(n) {
		for _, path := range paths(k) {
			all = append(all, append([]int{i}, path...))
		}
	}
	return all
}

func pathAt(n api.Node, at int) []int {
	l := kids(n)
	for i := len(l) - 1; i >= 0; i-- {
		if l[i].Pos <= at {
			return append([]int{i}, pathAt(l[i], at)...)
		}
	}
	return nil
}

func checkNames(t *testing.T, n api.Node) {
	t.Helper()
	assigned, uses := syntax.Assigned(n), syntax.Uses(n)
	wantAssigned, wantUses := names(n)
	if !slices.Equal(assigned, wantAssigned) || !slices.Equal(uses, wantUses) {
		t.Fatalf("Assigned and Uses of %+v are %q, %q, want %q, %q", n, assigned, uses, wantAssigned, wantUses)
	}
}

func TestRandom(t *testing.T) {
	r := rand.New(rand.NewSource(1))
	last := api.Node{}
	for range 1000 {
		n := random(r, 3)
		checkTree(t, n)
		checkNames(t, n)
		same := reflect.DeepEqual(withoutPos(n), withoutPos(last))
		if !syntax.Same(n, withoutPos(n)) || syntax.Same(n, last) != same {
			t.Fatalf("Same is wrong for %+v and %+v", n, last)
		}
		last = n
	}
}

// TestDifferent changes each field of a node, also of nodes, words and parts in it.
func TestDifferent(t *testing.T) {
	n := document()
	n.Kids[0].Redirs = []api.Redir{{Pos: 5, Fd: 1, Op: 2, Target: word(with("x", api.OpAssign, text("a"), with("b", api.OpError)))}}
	var change func(v reflect.Value, isPos bool)
	check := func(isPos bool) {
		changed, _ := syntax.Kid(n, nil)
		if syntax.Same(changed, original()) != isPos {
			t.Fatalf("Same(%+v, %+v) is %v", changed, original(), !isPos)
		}
	}
	change = func(v reflect.Value, isPos bool) {
		switch v.Kind() {
		case reflect.Int:
			v.SetInt(v.Int() + 1)
			check(isPos)
			v.SetInt(v.Int() - 1)
		case reflect.String:
			v.SetString(v.String() + "+")
			check(false)
			v.SetString(strings.TrimSuffix(v.String(), "+"))
		case reflect.Bool:
			v.SetBool(!v.Bool())
			check(false)
			v.SetBool(!v.Bool())
		case reflect.Slice:
			for i := range v.Len() {
				change(v.Index(i), false)
			}
			old := reflect.ValueOf(v.Interface())
			v.Set(reflect.Append(old, reflect.Zero(v.Type().Elem())))
			check(false)
			if v.Set(old); old.Len() > 0 {
				v.Set(old.Slice(0, old.Len()-1))
				check(false)
				v.Set(old)
			}
		case reflect.Struct:
			for i := range v.NumField() {
				change(v.Field(i), v.Type().Field(i).Name == "Pos")
			}
		}
	}
	check(true)
	change(reflect.ValueOf(&n).Elem(), false)
}

func original() api.Node {
	n := document()
	n.Kids[0].Redirs = []api.Redir{{Pos: 5, Fd: 1, Op: 2, Target: word(with("x", api.OpAssign, text("a"), with("b", api.OpError)))}}
	return n
}

// TestConsequences checks P11.10 and P11.11 for valid nodes, and that results are new memory and arguments unchanged.
func TestConsequences(t *testing.T) {
	for _, n := range append(samples()[:15], document(), deep(31)) {
		if syntax.Valid(n) != api.OK {
			t.Fatalf("%+v is not valid", n)
		}
		n, _ = syntax.Kid(n, nil)
		before, _ := syntax.Kid(n, nil)
		for _, path := range paths(n) {
			k, _ := syntax.Kid(n, path)
			m, errno := syntax.Replace(n, path, k)
			if errno != api.OK || !reflect.DeepEqual(m, n) {
				t.Fatalf("Replace(%+v, %v) by itself is %+v, %d", n, path, m, errno)
			}
			checkMemory(t, n, k, m)
			if m, errno := syntax.Replace(n, path, simple("new")); errno == api.OK {
				if again, ok := syntax.Kid(m, path); !ok || !reflect.DeepEqual(again, simple("new")) || syntax.Valid(m) != api.OK {
					t.Fatalf("Replace(%+v, %v) is %+v", n, path, m)
				}
			}
		}
		for _, m := range syntax.Walk(n) {
			if errno := syntax.Valid(m); errno != api.OK {
				t.Fatalf("Valid(%+v) in a valid node is %d", m, errno)
			}
		}
		if !reflect.DeepEqual(n, before) {
			t.Fatalf("the argument %+v was changed to %+v", before, n)
		}
	}
}

// TestSpare checks that the spare capacity of arguments is not used.
func TestSpare(t *testing.T) {
	buffer := []api.Node{simple("a"), simple("b"), simple("spare")}
	n := api.Node{Kind: api.NCase, Kids: buffer[:2], Words: texts("x", "y")[:1], Items: []api.Item{{Patterns: texts("c"), Body: []api.Node{simple("d"), simple("e")}[:1]}}}
	syntax.Walk(n)
	syntax.At(n, 5)
	syntax.Assigned(n)
	syntax.Replace(n, []int{2}, simple("f"))
	if !reflect.DeepEqual(buffer[2], simple("spare")) || !reflect.DeepEqual(n.Items[0].Body[:2][1], simple("e")) || !reflect.DeepEqual(n.Words[:2], texts("x", "y")) {
		t.Error("spare capacity was changed")
	}
}
