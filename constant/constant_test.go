package constant_test

import (
	"math"
	"math/big"
	"regexp"
	"strings"
	"testing"

	"jobshell/api"
	"jobshell/constant"
)

var wellFormed = regexp.MustCompile(`^(0[xX]([0-9a-fA-F]+)|0([0-7]*)|([1-9][0-9]*))$`)

// value returns by definition the value of a constant.
func value(s string, most uint64) (uint64, api.Errno) {
	m := wellFormed.FindStringSubmatch(s)
	if m == nil {
		return 0, api.ErrSyntax
	}
	n := new(big.Int)
	switch {
	case m[2] != "":
		n.SetString(m[2], 16)
	case m[4] != "":
		n.SetString(m[4], 10)
	case m[3] != "":
		n.SetString(m[3], 8)
	}
	if n.Cmp(new(big.Int).SetUint64(most)) > 0 {
		return 0, api.ErrOverflow
	}
	return n.Uint64(), api.OK
}

func check(t *testing.T, s string, most uint64) {
	t.Helper()
	n, e := constant.Value(s, most)
	if wantN, wantE := value(s, most); n != wantN || e != wantE {
		t.Errorf("Value(%q, %d) is %d, %d, want %d, %d", s, most, n, e, wantN, wantE)
	}
}

func TestValueSmall(t *testing.T) {
	pieces := []string{"0", "1", "7", "8", "9", "x", "X", "a", "f", "F", "g", "_", "-", " "}
	level := []string{""}
	for range 5 {
		var next []string
		for _, s := range level {
			for _, most := range []uint64{0, 1, 6, 7, 8, 9, 70, 71, 72, 255, 4096, math.MaxInt64, math.MaxUint64} {
				check(t, s, most)
			}
			for _, p := range pieces {
				next = append(next, s+p)
			}
		}
		level = next
	}
}

func TestValueBytes(t *testing.T) {
	for b := range 256 {
		c := string([]byte{byte(b)})
		for _, s := range []string{c, "0" + c, "1" + c, "0x" + c, "0" + c + "1", "1" + c + "1", "0x1" + c, c + "1"} {
			check(t, s, math.MaxInt64)
		}
	}
}

func TestValueLimits(t *testing.T) {
	for _, base := range []struct {
		prefix string
		base   int
	}{{"", 10}, {"0", 8}, {"000", 8}, {"0" + strings.Repeat("0", 5000), 8}, {"0x", 16}, {"0X0", 16}, {"0x" + strings.Repeat("0", 5000), 16}} {
		for _, power := range []uint{31, 32, 62, 63, 64, 65, 127, 128} {
			for d := int64(-2); d <= 2; d++ {
				n := new(big.Int).Lsh(big.NewInt(1), power)
				s := base.prefix + n.Add(n, big.NewInt(d)).Text(base.base)
				for _, most := range []uint64{math.MaxInt32, math.MaxInt64, math.MaxInt64 + 1, math.MaxUint64} {
					check(t, s, most)
					check(t, strings.ToUpper(s), most)
					check(t, s+"0", most)
					check(t, s+"g", most)
				}
			}
		}
	}
}

func TestValueExamples(t *testing.T) {
	for s, want := range map[string]uint64{"0": 0, "010": 8, "0x1F": 31, "0X1f": 31, "00": 0, "9223372036854775807": math.MaxInt64, "0777777777777777777777": math.MaxInt64} {
		if n, e := constant.Value(s, math.MaxInt64); n != want || e != api.OK {
			t.Errorf("Value(%q) is %d, %d, want %d", s, n, e, want)
		}
	}
	for s, want := range map[string]api.Errno{
		"": api.ErrSyntax, "09": api.ErrSyntax, "1a": api.ErrSyntax, "0x": api.ErrSyntax, "0X": api.ErrSyntax, "x1": api.ErrSyntax, "0b1": api.ErrSyntax, "0o7": api.ErrSyntax, "1_0": api.ErrSyntax,
		"9223372036854775808": api.ErrOverflow, "99999999999999999999x": api.ErrSyntax, "0x8000000000000000": api.ErrOverflow, "01000000000000000000000": api.ErrOverflow,
	} {
		if n, e := constant.Value(s, math.MaxInt64); n != 0 || e != want {
			t.Errorf("Value(%q) is %d, %d, want %d", s, n, e, want)
		}
	}
}
