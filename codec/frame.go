package codec

import (
	"bytes"

	"jobshell/api"
)

const (
	polynomial = 0x82F63B78
	sumSize    = 4 // bytes of the checksum of a frame
	maxKind    = 255
)

// Sum returns a checksum.
func Sum(b []byte) int { return int(checksum(b)) }

func checksum(b []byte) uint32 {
	register := ^uint32(0)
	for _, c := range b {
		register ^= uint32(c)
		for range 8 {
			out := register & 1
			register = register>>1 ^ out*polynomial
		}
	}
	return ^register
}

// sumBytes returns the checksum of b as it stands at the end of a frame.
func sumBytes(b []byte) []byte {
	sum := checksum(b)
	return []byte{byte(sum >> 24), byte(sum >> 16), byte(sum >> 8), byte(sum)}
}

// Seal returns a frame.
func Seal(kind int, b []byte) []byte {
	if kind < 0 || kind > maxKind {
		return nil
	}
	frame := appendNumber([]byte{byte(kind)}, len(b))
	frame = append(frame, b...)
	return append(frame, sumBytes(frame)...)
}

// Open returns the frame that b begins with.
func Open(b []byte) (kind int, payload []byte, used int, errno api.Errno) {
	defer func() { errno, _ = recover().(api.Errno) }()
	d := decoder{rest: b}
	first := d.take(1)[0]
	content := d.take(d.size())
	summed := b[:len(b)-len(d.rest)]
	if !bytes.Equal(d.take(sumSize), sumBytes(summed)) {
		panic(api.ErrChecksum)
	}
	return int(first), bytes.Clone(content), len(b) - len(d.rest), api.OK
}
