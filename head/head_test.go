package head_test

import (
	"regexp"
	"strings"
	"testing"

	"jobshell/api"
	"jobshell/head"
)

var assignmentForm = regexp.MustCompile(`(?s)^([A-Za-z_][A-Za-z_0-9]{0,31})=(.*)$`)

func TestAssignment(t *testing.T) {
	for _, s := range []string{"", "=", "x", "x=", "x=1", "x=1=2", "_=\n=", "a_1=\xff", "1x=2", "x =1", " x=1", "x-y=1", "'x'=1", "x\\\n=1", "é=1", "=x=1", strings.Repeat("x", 32) + "=y", strings.Repeat("x", 33) + "=y"} {
		var want [3]string
		copy(want[:], assignmentForm.FindStringSubmatch(s))
		if name, value, ok := head.Assignment(s); ok != (want[0] != "") || name != want[1] || value != want[2] {
			t.Errorf("Assignment(%q) is %q, %q, %v", s, name, value, ok)
		}
	}
}

func TestForms(t *testing.T) {
	text := func(s string) api.Part { return api.Part{Kind: api.PText, Text: s} }
	param := api.Part{Kind: api.PParam, Text: "if"}
	for _, c := range []struct {
		parts   []api.Part
		literal string
		begins  bool
	}{
		{nil, "", true},
		{[]api.Part{text("if")}, "if", false},
		{[]api.Part{text("iff")}, "iff", true},
		{[]api.Part{text("}")}, "}", false},
		{[]api.Part{text("if"), param}, "", true},
		{[]api.Part{param}, "", true},
		{[]api.Part{{Kind: api.PQuoted, Text: "if"}}, "", true},
		{[]api.Part{{Kind: api.PQuoted, Text: "x=1"}}, "", true},
		{[]api.Part{text("x=1")}, "x=1", false},
		{[]api.Part{text("x="), param}, "", false},
		{[]api.Part{text("x"), {Kind: api.PQuoted, Text: "=1"}}, "", true},
		{[]api.Part{text("1x=")}, "1x=", true},
	} {
		if s := head.Literal(c.parts); s != c.literal {
			t.Errorf("Literal(%+v) is %q", c.parts, s)
		}
		if head.Begins(c.parts) != c.begins {
			t.Errorf("Begins(%+v) is %v", c.parts, !c.begins)
		}
	}
}
