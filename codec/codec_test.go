package codec_test

import (
	"bytes"
	"math"
	"math/big"
	"slices"
	"strings"
	"testing"

	"jobshell/api"
	"jobshell/codec"
)

// numbers are numbers of every length of encodings, and their neighbors.
func numbers() []int {
	l := []int{math.MinInt64, math.MaxInt64}
	for shift := range 63 {
		for _, d := range []int{-2, -1, 0, 1} {
			l = append(l, 1<<shift+d, -(1<<shift)+d)
		}
	}
	return l
}

// encoding is the encoding of n by definition, in mathematical integers.
func encoding(n int) []byte {
	z := new(big.Int).Mul(big.NewInt(2), big.NewInt(int64(n)))
	if n < 0 {
		z.Neg(z)
		z.Sub(z, big.NewInt(1))
	}
	var groups []byte
	base, group := big.NewInt(128), new(big.Int)
	for {
		z.DivMod(z, base, group)
		groups = append(groups, byte(group.Int64()))
		if z.Sign() == 0 {
			break
		}
	}
	for i := range len(groups) - 1 {
		groups[i] += 128
	}
	return groups
}

// joined returns the bytes of all the lists, with spare capacity.
func joined(lists ...[]byte) []byte {
	b := make([]byte, 0, 1000)
	for _, l := range lists {
		b = append(b, l...)
	}
	return b
}

func TestPutInt(t *testing.T) {
	for n, want := range map[int][]byte{
		0: {0}, -1: {1}, 1: {2}, -2: {3}, 63: {126}, -64: {127}, 64: {128, 1}, -65: {129, 1}, 8191: {254, 127}, -8192: {255, 127}, 8192: {128, 128, 1},
		math.MaxInt64: {254, 255, 255, 255, 255, 255, 255, 255, 255, 1}, math.MinInt64: {255, 255, 255, 255, 255, 255, 255, 255, 255, 1},
	} {
		if b := codec.PutInt(n); !bytes.Equal(b, want) {
			t.Errorf("PutInt(%d) is %v, want %v", n, b, want)
		}
	}
	check := func(n int) {
		if b := codec.PutInt(n); !bytes.Equal(b, encoding(n)) {
			t.Errorf("PutInt(%d) is %v, want %v", n, b, encoding(n))
		}
	}
	for n := -20000; n <= 20000; n++ {
		check(n)
	}
	for _, n := range numbers() {
		check(n)
	}
}

func TestTakeInt(t *testing.T) {
	for _, n := range numbers() {
		b := codec.PutInt(n)
		for _, rest := range [][]byte{nil, {0}, {1}, {128}, {255, 255}, b} {
			if got, used, e := codec.TakeInt(joined(b, rest)); got != n || used != len(b) || e != api.OK {
				t.Errorf("TakeInt of %v and %v is %d, %d, %d, want %d", b, rest, got, used, e, n)
			}
		}
		for end := range len(b) {
			if got, used, e := codec.TakeInt(b[:end]); got != 0 || used != 0 || e != api.ErrTruncated {
				t.Errorf("TakeInt(%v) is %d, %d, %d, want ErrTruncated", b[:end], got, used, e)
			}
		}
	}
}

func TestTakeIntErrors(t *testing.T) {
	nine := bytes.Repeat([]byte{128}, 9)
	for _, c := range []struct {
		b    []byte
		want api.Errno
	}{
		{nil, api.ErrTruncated}, {[]byte{128}, api.ErrTruncated}, {[]byte{255, 255}, api.ErrTruncated}, {nine, api.ErrTruncated},
		{[]byte{128, 0}, api.ErrSyntax}, {[]byte{255, 0}, api.ErrSyntax}, {[]byte{129, 128, 0}, api.ErrSyntax}, {[]byte{128, 0, 128}, api.ErrSyntax},
		{joined(nine[:8], []byte{0}), api.ErrSyntax}, {joined(nine, []byte{0}), api.ErrSyntax}, {joined(nine, []byte{2}), api.ErrSyntax}, {joined(nine, []byte{3}), api.ErrSyntax},
		{joined(nine, []byte{127}), api.ErrSyntax}, {joined(nine, []byte{128}), api.ErrSyntax}, {joined(nine, []byte{129}), api.ErrSyntax}, {joined(nine, []byte{129, 0}), api.ErrSyntax}, {bytes.Repeat([]byte{255}, 1000), api.ErrSyntax},
	} {
		if n, used, e := codec.TakeInt(c.b); n != 0 || used != 0 || e != c.want {
			t.Errorf("TakeInt(%v) is %d, %d, %d, want the error %d", c.b, n, used, e, c.want)
		}
	}
}

// number is the number at the beginning of b by definition: the one whose encoding is there.
func number(b []byte) (int, int, api.Errno) {
	size := slices.IndexFunc(b, func(c byte) bool { return c < 128 }) + 1
	if size == 0 && len(b) < 10 {
		return 0, 0, api.ErrTruncated
	}
	if size == 0 || size > 10 {
		return 0, 0, api.ErrSyntax
	}
	z := new(big.Int)
	for i := size - 1; i >= 0; i-- {
		z.Lsh(z, 7)
		z.Add(z, big.NewInt(int64(b[i]%128)))
	}
	n := new(big.Int).Rsh(z, 1)
	if z.Bit(0) == 1 {
		n.Not(n)
	}
	if !n.IsInt64() || !bytes.Equal(encoding(int(n.Int64())), b[:size]) {
		return 0, 0, api.ErrSyntax
	}
	return int(n.Int64()), size, api.OK
}

func TestTakeIntDefinition(t *testing.T) {
	check := func(b []byte) {
		n, used, e := codec.TakeInt(b)
		wantN, wantUsed, want := number(b)
		if n != wantN || used != wantUsed || e != want {
			t.Errorf("TakeInt(%v) is %d, %d, %d, want %d, %d, %d", b, n, used, e, wantN, wantUsed, want)
		}
	}
	for before := range 12 {
		for _, fill := range []byte{128, 129, 254, 255} {
			b := joined(bytes.Repeat([]byte{fill}, before), []byte{0, 0})
			for i := range 256 {
				for _, next := range []byte{0, 1, 2, 127, 128, 255} {
					b[before], b[before+1] = byte(i), next
					check(b[:before+1])
					check(b)
				}
			}
		}
	}
}

func TestPutText(t *testing.T) {
	for s, want := range map[string][]byte{"": {0}, "ab": {4, 97, 98}, "\x00": {2, 0}, "é\xff": {6, 0xc3, 0xa9, 0xff}} {
		if b := codec.PutText(s); !bytes.Equal(b, want) {
			t.Errorf("PutText(%q) is %v, want %v", s, b, want)
		}
	}
	for _, size := range []int{0, 1, 63, 64, 8191, 8192, 20000} {
		s := strings.Repeat("x", size)
		if b := codec.PutText(s); !bytes.Equal(b, joined(encoding(size), []byte(s))) {
			t.Errorf("PutText of %d bytes is wrong", size)
		}
	}
}

func TestTakeText(t *testing.T) {
	for _, s := range []string{"", "a", "ab", "\x00\xff", "é", strings.Repeat("b", 63), strings.Repeat("b", 64), strings.Repeat("\x80", 500)} {
		b := codec.PutText(s)
		for _, rest := range [][]byte{nil, {0}, {128}, {255, 255}} {
			if got, used, e := codec.TakeText(joined(b, rest)); got != s || used != len(b) || e != api.OK {
				t.Errorf("TakeText of PutText(%q) and %v is %q, %d, %d", s, rest, got, used, e)
			}
		}
		for end := range len(b) {
			if got, used, e := codec.TakeText(b[:end]); got != "" || used != 0 || e != api.ErrTruncated {
				t.Errorf("TakeText of %d bytes of PutText(%q) is %q, %d, %d, want ErrTruncated", end, s, got, used, e)
			}
		}
	}
}

func TestTakeTextErrors(t *testing.T) {
	for _, c := range []struct {
		b    []byte
		want api.Errno
	}{
		{nil, api.ErrTruncated}, {[]byte{128}, api.ErrTruncated}, {[]byte{128, 0, 97}, api.ErrSyntax}, {bytes.Repeat([]byte{128}, 10), api.ErrSyntax},
		{[]byte{1}, api.ErrSyntax}, {[]byte{3, 97, 97}, api.ErrSyntax}, {codec.PutInt(math.MinInt64), api.ErrSyntax},
		{[]byte{2}, api.ErrTruncated}, {[]byte{4, 97}, api.ErrTruncated}, {joined(codec.PutInt(64), make([]byte, 63)), api.ErrTruncated}, {joined(codec.PutInt(math.MaxInt64), []byte("abc")), api.ErrTruncated},
	} {
		if s, used, e := codec.TakeText(c.b); s != "" || used != 0 || e != c.want {
			t.Errorf("TakeText(%v) is %q, %d, %d, want the error %d", c.b, s, used, e, c.want)
		}
	}
}

func TestPutTexts(t *testing.T) {
	for _, c := range []struct {
		l    []string
		want []byte
	}{
		{nil, []byte{0}}, {[]string{}, []byte{0}}, {[]string{""}, []byte{2, 0}}, {[]string{"", "ab"}, []byte{4, 0, 4, 97, 98}}, {[]string{"a", "", "\xff"}, []byte{6, 2, 97, 0, 2, 255}},
	} {
		if b := codec.PutTexts(c.l); !bytes.Equal(b, c.want) {
			t.Errorf("PutTexts(%q) is %v, want %v", c.l, b, c.want)
		}
	}
	if b := codec.PutTexts(make([]string, 100)); !bytes.Equal(b, joined([]byte{200, 1}, make([]byte, 100))) {
		t.Errorf("PutTexts of 100 empty strings is %v", b)
	}
}

func TestTakeTexts(t *testing.T) {
	for _, l := range [][]string{nil, {""}, {"a"}, {"", ""}, {"ab", "", "c\x00"}, make([]string, 64), {strings.Repeat("x", 100), "\xff\xfe", "é"}} {
		b := codec.PutTexts(l)
		for _, rest := range [][]byte{nil, {0}, {128}, {255, 255}} {
			if got, used, e := codec.TakeTexts(joined(b, rest)); !slices.Equal(got, l) || used != len(b) || e != api.OK {
				t.Errorf("TakeTexts of PutTexts(%q) and %v is %q, %d, %d", l, rest, got, used, e)
			}
		}
		for end := range len(b) {
			if got, used, e := codec.TakeTexts(b[:end]); len(got) != 0 || used != 0 || e != api.ErrTruncated {
				t.Errorf("TakeTexts of %d bytes of PutTexts(%q) is %q, %d, %d, want ErrTruncated", end, l, got, used, e)
			}
		}
	}
}

func TestTakeTextsErrors(t *testing.T) {
	for _, c := range []struct {
		b    []byte
		want api.Errno
	}{
		{nil, api.ErrTruncated}, {[]byte{128}, api.ErrTruncated}, {[]byte{128, 0}, api.ErrSyntax}, {bytes.Repeat([]byte{255}, 10), api.ErrSyntax},
		{[]byte{1}, api.ErrSyntax}, {[]byte{3, 0, 0}, api.ErrSyntax}, {codec.PutInt(math.MinInt64), api.ErrSyntax},
		// The number of elements is examined before the elements.
		{[]byte{2}, api.ErrTruncated}, {[]byte{4, 1}, api.ErrTruncated}, {[]byte{6, 1, 0}, api.ErrTruncated}, {joined(codec.PutInt(math.MaxInt64), []byte{1}), api.ErrTruncated},
		{[]byte{4, 0, 1}, api.ErrSyntax}, {[]byte{4, 1, 0}, api.ErrSyntax}, {[]byte{4, 128, 0}, api.ErrSyntax}, {[]byte{2, 128}, api.ErrTruncated}, {[]byte{4, 2, 97}, api.ErrTruncated}, {[]byte{4, 8, 1}, api.ErrTruncated}, {[]byte{6, 2, 97, 0}, api.ErrTruncated}, {[]byte{6, 2, 97, 1}, api.ErrSyntax},
	} {
		if l, used, e := codec.TakeTexts(c.b); len(l) != 0 || used != 0 || e != c.want {
			t.Errorf("TakeTexts(%v) is %q, %d, %d, want the error %d", c.b, l, used, e, c.want)
		}
	}
}

// TestCanonical checks that what is accepted begins with the encoding of the result.
func TestCanonical(t *testing.T) {
	pieces := []byte{0, 1, 2, 3, 4, 6, 97, 127, 128, 129, 255}
	level := [][]byte{nil}
	for range 5 {
		var next [][]byte
		for _, b := range level {
			if n, used, e := codec.TakeInt(b); e == api.OK && !bytes.Equal(codec.PutInt(n), b[:used]) {
				t.Errorf("TakeInt(%v) is %d, %d", b, n, used)
			}
			if s, used, e := codec.TakeText(b); e == api.OK && !bytes.Equal(codec.PutText(s), b[:used]) {
				t.Errorf("TakeText(%v) is %q, %d", b, s, used)
			}
			if l, used, e := codec.TakeTexts(b); e == api.OK && !bytes.Equal(codec.PutTexts(l), b[:used]) {
				t.Errorf("TakeTexts(%v) is %q, %d", b, l, used)
			}
			for _, p := range pieces {
				next = append(next, joined(b, []byte{p}))
			}
		}
		level = next
	}
}

// TestResultsAreNew checks that texts do not change with the bytes that they were decoded from.
func TestResultsAreNew(t *testing.T) {
	b := codec.PutTexts([]string{"ab", "cd"})
	l, _, _ := codec.TakeTexts(b)
	s, _, _ := codec.TakeText(b[1:])
	clear(b)
	if !slices.Equal(l, []string{"ab", "cd"}) || s != "ab" {
		t.Errorf("the texts are %q and %q", l, s)
	}
}
