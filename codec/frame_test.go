package codec_test

import (
	"bytes"
	"encoding/binary"
	"hash/crc32"
	"math"
	"slices"
	"strings"
	"testing"

	"jobshell/api"
	"jobshell/codec"
)

// payloads are payloads whose lengths have encodings of one to three bytes.
func payloads() [][]byte {
	return [][]byte{nil, {0}, {255}, []byte("abc"), make([]byte, 4), bytes.Repeat([]byte{0xa5}, 63), bytes.Repeat([]byte("x"), 64), bytes.Repeat([]byte{0, 1, 2}, 3000)}
}

// frame is a frame by definition.
func frame(kind byte, payload []byte) []byte {
	f := joined([]byte{kind}, encoding(len(payload)), payload)
	return binary.BigEndian.AppendUint32(f, crc32.Checksum(f, crc32.MakeTable(crc32.Castagnoli)))
}

func TestSum(t *testing.T) {
	for s, want := range map[string]int{"": 0, "123456789": 0xE3069283, "\x00": 0x527D5351, "\xff": 0xFF000000, "a": 0xC1D04330, strings.Repeat("\x00", 32): 0x8A9136AA, strings.Repeat("\xff", 32): 0x62A8AB43} {
		if sum := codec.Sum([]byte(s)); sum != want {
			t.Errorf("Sum(%q) is %x, want %x", s, sum, want)
		}
	}
	table := crc32.MakeTable(crc32.Castagnoli)
	for i := range 256 {
		for j := range 256 {
			b := []byte{byte(i), byte(j), byte(i ^ j)}
			for end := range len(b) + 1 {
				if sum := codec.Sum(b[:end]); sum != int(crc32.Checksum(b[:end], table)) {
					t.Errorf("Sum(%v) is %x", b[:end], sum)
				}
			}
		}
	}
}

func TestSeal(t *testing.T) {
	f := codec.Seal(7, nil)
	if len(f) != 6 || f[0] != 7 || f[1] != 0 {
		t.Errorf("Seal(7, nil) is %v", f)
	}
	for _, kind := range []int{0, 1, 7, 127, 128, 254, 255} {
		for _, p := range payloads() {
			if f := codec.Seal(kind, p); !bytes.Equal(f, frame(byte(kind), p)) {
				t.Errorf("Seal(%d, %v) is %v", kind, p, f)
			}
		}
	}
	for _, kind := range []int{-1, -256, 256, 257, 512, math.MaxInt64, math.MinInt64} {
		if f := codec.Seal(kind, []byte("abc")); len(f) != 0 {
			t.Errorf("Seal of the kind %d is %v", kind, f)
		}
	}
}

func TestOpen(t *testing.T) {
	for _, kind := range []int{0, 1, 128, 255} {
		for _, p := range payloads() {
			f := frame(byte(kind), p)
			for _, rest := range [][]byte{nil, {0}, {1, 2}, {255, 255, 255, 255, 255}, f} {
				if k, got, used, e := codec.Open(joined(f, rest)); k != kind || !bytes.Equal(got, p) || used != len(f) || e != api.OK {
					t.Errorf("Open of a frame of %d bytes and of the kind %d, and %d bytes, is %d, %v, %d, %d", len(f), kind, len(rest), k, got, used, e)
				}
			}
			for end := range len(f) {
				isRejected(t, f[:end], api.ErrTruncated)
			}
		}
	}
}

// isRejected checks that Open returns an error, and zero values.
func isRejected(t *testing.T, b []byte, want api.Errno) {
	t.Helper()
	if kind, p, used, e := codec.Open(b); kind != 0 || len(p) != 0 || used != 0 || e != want {
		t.Errorf("Open(%v) is %d, %v, %d, %d, want the error %d", b, kind, p, used, e, want)
	}
}

func TestOpenErrors(t *testing.T) {
	for _, c := range []struct {
		b    []byte
		want api.Errno
	}{
		{nil, api.ErrTruncated}, {[]byte{7}, api.ErrTruncated}, {[]byte{7, 128}, api.ErrTruncated}, {[]byte{7, 128, 0}, api.ErrSyntax}, {joined([]byte{7}, bytes.Repeat([]byte{128}, 10)), api.ErrSyntax},
		{[]byte{7, 1}, api.ErrSyntax}, {[]byte{7, 1, 0, 0, 0, 0}, api.ErrSyntax}, {joined([]byte{7}, codec.PutInt(math.MinInt64)), api.ErrSyntax},
		{[]byte{7, 0}, api.ErrTruncated}, {[]byte{7, 0, 1, 2, 3}, api.ErrTruncated}, {[]byte{7, 2, 1, 2, 3, 4}, api.ErrTruncated}, {[]byte{7, 8, 1, 2, 3}, api.ErrTruncated},
		{joined([]byte{7}, codec.PutInt(math.MaxInt64), make([]byte, 9)), api.ErrTruncated}, {joined([]byte{7}, codec.PutInt(math.MaxInt64-3), make([]byte, 9)), api.ErrTruncated},
		{[]byte{7, 0, 1, 2, 3, 4}, api.ErrChecksum}, {[]byte{7, 2, 97, 1, 2, 3, 4}, api.ErrChecksum}, {[]byte{7, 0, 1, 2, 3, 4, 5, 6}, api.ErrChecksum}, {make([]byte, 6), api.ErrChecksum},
	} {
		isRejected(t, c.b, c.want)
	}
}

func TestOpenChanges(t *testing.T) {
	for _, p := range [][]byte{nil, {0}, []byte("abc"), bytes.Repeat([]byte("x"), 64)} {
		f := codec.Seal(3, p)
		for at := len(f) - 4 - len(p); at < len(f); at++ {
			for change := 1; change < 256; change++ {
				changed := slices.Clone(f)
				changed[at] ^= byte(change)
				isRejected(t, changed, api.ErrChecksum)
			}
		}
		kind := slices.Clone(f)
		kind[0]++
		isRejected(t, kind, api.ErrChecksum)
	}
}

// TestArgumentsAreKept checks that no function writes to its argument or behind it, and that no result shares memory with it.
func TestArgumentsAreKept(t *testing.T) {
	f := codec.Seal(7, []byte("abc"))
	b := joined(f, bytes.Repeat([]byte{9}, 50))
	before := slices.Clone(b)
	sealed := codec.Seal(1, b[:3])
	_, p, _, _ := codec.Open(b[:len(f)])
	codec.Sum(b[:3])
	if !bytes.Equal(b, before) {
		t.Errorf("the argument is %v", b)
	}
	_ = append(p[:len(p):cap(p)], bytes.Repeat([]byte{8}, cap(p)-len(p))...)
	clear(sealed)
	p[0] = 'x'
	if !bytes.Equal(b, before) {
		t.Errorf("a result shares memory with the argument, which is %v", b)
	}
	clear(b)
	if string(p) != "xbc" {
		t.Errorf("the payload is %q", p)
	}
}
