package codec

import "jobshell/api"

const (
	continuation = 128 // the bit of a byte that another byte of the number follows
	groupBits    = 7   // how many bits of a number a byte contains
	lastByte     = 9   // the index of the last byte of the longest encodings of numbers
)

// decoder contains the bytes that are not yet decoded. Its methods report an error by a panic with an api.Errno.
type decoder struct{ rest []byte }

// take removes the next bytes.
func (d *decoder) take(size int) []byte {
	if size > len(d.rest) {
		panic(api.ErrTruncated)
	}
	b := d.rest[:size]
	d.rest = d.rest[size:]
	return b
}

func (d *decoder) number() int {
	var z uint64
	for i := 0; ; i++ {
		b := d.take(1)[0]
		if i == lastByte && b != 1 || i > 0 && b == 0 {
			panic(api.ErrSyntax)
		}
		z |= uint64(b&^continuation) << (groupBits * i)
		if b < continuation {
			return unzigzag(z)
		}
	}
}

// size decodes the number of the bytes or the elements that follow.
func (d *decoder) size() int {
	n := d.number()
	if n < 0 {
		panic(api.ErrSyntax)
	}
	return n
}

func (d *decoder) text() string { return string(d.take(d.size())) }

func (d *decoder) texts() []string {
	count := d.size()
	if count > len(d.rest) {
		panic(api.ErrTruncated)
	}
	var l []string
	for range count {
		l = append(l, d.text())
	}
	return l
}

// zigzag maps the numbers to the numbers that are not negative.
func zigzag(n int) uint64 {
	if n < 0 {
		return 2*uint64(^n) + 1
	}
	return 2 * uint64(n)
}

func unzigzag(z uint64) int {
	half := int(z / 2)
	if z%2 == 1 {
		return ^half
	}
	return half
}
