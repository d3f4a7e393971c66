package class_test

import (
	"regexp"
	"strings"
	"testing"

	"jobshell/class"
)

const (
	digits = "0123456789"
	named  = "ABCDEFGHIJKLMNOPQRSTUVWXYZabcdefghijklmnopqrstuvwxyz_" + digits
)

func TestBytes(t *testing.T) {
	for name, f := range map[string]struct {
		is  func(b byte) bool
		set string
	}{
		"Blank":    {class.Blank, " \t"},
		"Operator": {class.Operator, "&|;()<>"},
		"Border":   {class.Border, " \t\n&|;()<>"},
		"Digit":    {class.Digit, digits},
		"Named":    {class.Named, named},
	} {
		for b := range 256 {
			if want := strings.IndexByte(f.set, byte(b)) >= 0; f.is(byte(b)) != want {
				t.Errorf("%s(%d) is %v", name, b, !want)
			}
		}
	}
}

func TestParameter(t *testing.T) {
	form := regexp.MustCompile(`^(?:[A-Za-z_][A-Za-z_0-9]*|[0-9@*#?$!-])`)
	check := func(s string) {
		if n, want := class.Parameter(s), len(form.FindString(s)); n != want {
			t.Errorf("Parameter(%q) is %d, want %d", s, n, want)
		}
	}
	check("")
	for a := range 256 {
		check(string([]byte{byte(a)}))
		for b := range 256 {
			check(string([]byte{byte(a), byte(b)}))
			check(string([]byte{'x', byte(a), byte(b)}))
		}
	}
	check(strings.Repeat("a", 1000))
	check("123")
	check("$$")
	check("a1_B-c")
}
