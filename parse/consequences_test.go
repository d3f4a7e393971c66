package parse_test

import (
	"fmt"
	"math/rand"
	"reflect"
	"strings"
	"testing"

	"jobshell/api"
	"jobshell/parse"
	"jobshell/small"
)

// moved returns nodes with all positions moved.
func moved(l []api.Node, by int) []api.Node {
	var visit func(v reflect.Value)
	visit = func(v reflect.Value) {
		switch v.Kind() {
		case reflect.Slice:
			for i := range v.Len() {
				visit(v.Index(i))
			}
		case reflect.Struct:
			for i := range v.NumField() {
				if v.Type().Field(i).Name == "Pos" {
					v.Field(i).SetInt(v.Field(i).Int() + int64(by))
				}
				visit(v.Field(i))
			}
		}
	}
	visit(reflect.ValueOf(&l).Elem())
	return l
}

// program returns the nodes of a program that has no error.
func program(t *testing.T, s string) []api.Node {
	t.Helper()
	l, at, errno := parse.Program(s)
	if at != 0 || errno != api.OK {
		t.Fatalf("Program(%q) is %d, %d", s, at, errno)
	}
	return l
}

// checkTogether checks P13.5.
func checkTogether(t *testing.T, a, b string) {
	t.Helper()
	l := program(t, a)
	for _, n := range moved(program(t, b), len(a)+1) {
		if n.Pos <= len(a) {
			t.Fatalf("a node of %q begins at %d behind %q", b, n.Pos, a)
		}
		l = append(l, n)
	}
	if got := program(t, a+"\n"+b); fmt.Sprintf("%+v", got) != fmt.Sprintf("%+v", l) {
		t.Fatalf("Program(%q) is %s, want %s", a+"\n"+b, sketch(got), sketch(l))
	}
}

func TestLinesTogether(t *testing.T) {
	l := []string{"", "a", "a;", "a &", "# x", "a #x\\", "{ a\nb; } >f", "cat <<E\nx\nE", "cat <<E\nE\n", "if a\nthen b; fi\n\n", "x=1 >&2", "f() (a) <<''\n\n", "case $x in\na) ;;\nesac", "a\\\nb 'c\nd'", "$(a\nb)", " \t\n"}
	for _, a := range l {
		for _, b := range l {
			checkTogether(t, a, b)
		}
	}
	r := rand.New(rand.NewSource(4))
	for range 500 {
		a, b := maker{r: r}, maker{r: r}
		a.program(2)
		b.program(2)
		checkTogether(t, string(a.s), string(b.s))
	}
}

// TestLimitOfTogether checks the exceptions of P13.5.
func TestLimitOfTogether(t *testing.T) {
	half := strings.Repeat("a\n", api.MaxNodes/2)
	if l := program(t, half+half); len(l) != api.MaxNodes {
		t.Errorf("there are %d nodes", len(l))
	}
	if _, at, errno := parse.Program(half + half + "b"); at != 0 || errno != api.ErrLimit {
		t.Errorf("too many nodes are %d, %d", at, errno)
	}
	blank := strings.Repeat(" ", api.MaxText/2)
	if l := program(t, blank+blank); len(l) != 0 {
		t.Errorf("there are %d nodes", len(l))
	}
	if _, at, errno := parse.Program(blank + "\n" + blank); at != 0 || errno != api.ErrTooLong {
		t.Errorf("a text that is too long is %d, %d", at, errno)
	}
}

// TestContinuation checks P13.6, and that Program is the lines of Line.
func TestContinuation(t *testing.T) {
	rest := []string{"", "a", "fi", "}", ")", "'", "\"", "`", "E", "E\n)", "; fi\n}\n)", "done;;esac", "then a; fi", "E\n'\n\"\n`"}
	wrong := 0
	small.Each([]string{"a", " ", ";", "\n", "'", "\"", "`", "\\", "#", "$(", ")", "{", "}", "if ", "fi", "<<E", "|", "2>", "((", "${x!"}, 3, func(s string) {
		checkLines(t, s)
		if _, errno := parse.Complete(s); errno == api.OK {
			return
		}
		wrong++
		for _, more := range rest {
			if done, errno := parse.Complete(s + "\n" + more); done {
				t.Fatalf("Complete(%q) is %v, %d", s+"\n"+more, done, errno)
			}
		}
	})
	if wrong < 1000 {
		t.Errorf("only %d sources are wrong", wrong)
	}
}

// checkLines compares Program and Complete with Line.
func checkLines(t *testing.T, s string) {
	t.Helper()
	var want []api.Node
	at, errno := 0, api.OK
	for at < len(s) && errno == api.OK {
		var l []api.Node
		l, at, errno = parse.Line(s, at)
		want = append(want, l...)
	}
	if errno != api.OK {
		want = nil
	} else {
		at = 0
	}
	if l, end, e := parse.Program(s); full(l) != full(want) || end != at || e != errno {
		t.Fatalf("Program(%q) is %s, %d, %d, want %s, %d, %d", s, sketch(l), end, e, sketch(want), at, errno)
	}
	checkComplete(t, s, errno)
}

// TestMemory checks that no two lists of a result share memory.
func TestMemory(t *testing.T) {
	l := program(t, "x=$y a \"b$(c)\" >d <<E | { ! e; } >f <<'F' && case g in h|i) j & ;; esac; if k; then l; elif m; then n; fi\n${o-p}\nE\nq\nF\nr() for s in t u; do v; done")
	seen := map[string]bool{}
	var visit func(v reflect.Value)
	visit = func(v reflect.Value) {
		switch v.Kind() {
		case reflect.Slice:
			if v.Len() > 0 {
				address := fmt.Sprintf("%p", v.Interface())
				if seen[address] {
					t.Fatalf("memory is shared by %+v", v)
				}
				seen[address] = true
			}
			for i := range v.Len() {
				visit(v.Index(i))
			}
		case reflect.Struct:
			for i := range v.NumField() {
				visit(v.Field(i))
			}
		}
	}
	visit(reflect.ValueOf(l))
	if len(seen) < 50 {
		t.Errorf("there are %d lists only", len(seen))
	}
}
