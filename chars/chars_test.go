package chars_test

import (
	"strings"
	"testing"

	"jobshell/api"
	"jobshell/chars"
)

const (
	letters = "ABCDEFGHIJKLMNOPQRSTUVWXYZabcdefghijklmnopqrstuvwxyz"
	digits  = "0123456789"
)

// eachByte calls f with each of the strings of one byte.
func eachByte(f func(s string)) {
	for b := range 256 {
		f(string([]byte{byte(b)}))
	}
}

func TestName(t *testing.T) {
	long := strings.Repeat("a", api.MaxName)
	for s, want := range map[string]bool{
		"a": true, "Z": true, "_": true, "__": true, "a1": true, "_a1": true, "IFS": true, "a_9Z": true,
		long: true, strings.Repeat("_", api.MaxName-1) + "9": true,
		"": false, "1": false, "1a": false, "a-b": false, "a b": false, "a=": false, "a\x00": false, "a\n": false, " a": false,
		long + "a": false, strings.Repeat("a", 1000): false,
		"é": false, "aé": false, "a\xff": false, "\xffa": false, "a\u0661": false, "\ufffd": false,
	} {
		if chars.Name(s) != want {
			t.Errorf("Name(%q) is %v", s, !want)
		}
	}
}

func TestNameBytes(t *testing.T) {
	eachByte(func(s string) {
		if want := strings.Contains(letters+"_", s); chars.Name(s) != want {
			t.Errorf("Name(%q) is %v", s, !want)
		}
		want := strings.Contains(letters+digits+"_", s)
		for _, name := range []string{"a" + s, "a" + s + "b"} {
			if chars.Name(name) != want {
				t.Errorf("Name(%q) is %v", name, !want)
			}
		}
	})
}

func TestDigits(t *testing.T) {
	for s, want := range map[string]int{
		"0": 0, "1": 1, "7": 7, "9": 9, "10": 10, "1234567890": 1234567890, "2147483639": 2147483639, "2147483640": 2147483640,
		"2147483646": 2147483646, "2147483647": api.MaxNumber,
	} {
		if n, ok := chars.Digits(s); n != want || !ok {
			t.Errorf("Digits(%q) is %d, %v, want %d", s, n, ok, want)
		}
	}
	for _, s := range []string{
		"", "00", "01", "07", "-1", "-0", "+1", " 1", "1 ", "1x", "x1", "0x1", "1_0", "1.0", "1\n", "1\x00", "\u0661", "1\xff", "1é",
		"2147483648", "2147483650", "3000000000", "4294967296", "4294967297", "9999999999", "18446744073709551616", "18446744073709551617",
		"1" + strings.Repeat("0", 100), "0" + strings.Repeat("0", 100), strings.Repeat("9", 1000),
	} {
		if n, ok := chars.Digits(s); n != 0 || ok {
			t.Errorf("Digits(%q) is %d, %v, want false", s, n, ok)
		}
	}
}

func TestDigitsBytes(t *testing.T) {
	eachByte(func(s string) {
		at := strings.Index(digits, s)
		if n, ok := chars.Digits(s); ok != (at >= 0) || n != max(at, 0) {
			t.Errorf("Digits(%q) is %d, %v", s, n, ok)
		}
		if n, ok := chars.Digits("1" + s); ok != (at >= 0) || ok && n != 10+at || !ok && n != 0 {
			t.Errorf("Digits(%q) is %d, %v", "1"+s, n, ok)
		}
	})
}

func TestPlain(t *testing.T) {
	eachByte(func(s string) {
		want := strings.Contains(letters+digits+"_-./,:+%@^", s)
		for _, p := range []string{s, s + "a", "a" + s, "a" + s + "a"} {
			if chars.Plain(p) != want {
				t.Errorf("Plain(%q) is %v", p, !want)
			}
		}
	})
	for s, want := range map[string]bool{
		"": false, "a/b.c": true, "-x^@%+:,._": true, "12:30": true, strings.Repeat("a", 5000): true,
		"a b": false, "é": false, "aé": false, "a\xff": false, "\ufffd": false, "a=b": false, "~": false, "*": false,
	} {
		if chars.Plain(s) != want {
			t.Errorf("Plain(%q) is %v", s, !want)
		}
	}
}
