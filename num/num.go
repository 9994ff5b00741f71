// Package num is layer 1: see shared/doc/01-num.md.
package num

import "columbarium/api"

// widest is the greatest width, in bytes.
const widest = 8

// The greatest arguments that Round takes.
const (
	mostRounded = 1 << 30
	mostStep    = 4096
)

// Load reads a number.
func Load(b []byte, at int, width int) (uint64, api.Errno) {
	if !isWidth(width) {
		return 0, api.ErrArg
	}
	if e := placed(len(b), at, width); e != api.OK {
		return 0, e
	}
	var parts [widest]byte
	copy(parts[:], b[at:at+width])
	return join(parts), api.OK
}

// Store lays a number into bytes.
func Store(b []byte, at int, width int, v uint64) ([]byte, api.Errno) {
	if !Fits(v, width) {
		return nil, api.ErrArg
	}
	if e := placed(len(b), at, width); e != api.OK {
		return nil, e
	}
	stored := make([]byte, len(b))
	copy(stored, b)
	parts := split(v)
	copy(stored[at:], parts[:width])
	return stored, api.OK
}

// Fits tells whether a number has room in a width.
func Fits(v uint64, width int) bool {
	// A shift by all the bits of v leaves nothing, so the widest width needs no case of its own.
	return isWidth(width) && v>>(8*width) == 0
}

// Round rounds a number up.
func Round(n int, to int) int {
	if n < 0 || n > mostRounded || to < 1 || to > mostStep {
		return 0
	}
	if divides(to, n) {
		return n
	}
	return n - n%to + to
}

// Halves tells how often a number is halved.
func Halves(n int) int {
	count := 0
	for n > 0 {
		n /= 2
		count++
	}
	return count
}

// isWidth tells whether a number of bytes is a width.
func isWidth(width int) bool {
	switch width {
	case 1, 2, 4, widest:
		return true
	}
	return false
}

// placed tells why an offset among n bytes isn't valid for a width.
func placed(n int, at int, width int) api.Errno {
	// The width is taken from n, not added to at: a sum could wrap round.
	if at < 0 || at > n-width {
		return api.ErrRange
	}
	if !divides(width, at) {
		return api.ErrAlign
	}
	return api.OK
}

// divides tells whether d, which is not 0, divides n.
func divides[N int | uint64](d N, n N) bool {
	return n%d == 0
}

// split answers an integer's bytes, the least significant one first.
func split(v uint64) [widest]byte {
	var parts [widest]byte
	for i := range widest {
		parts[i] = byte(v >> (8 * i))
	}
	return parts
}

// join answers the integer of bytes that split has made.
func join(parts [widest]byte) uint64 {
	v := uint64(0)
	for i := range widest {
		v |= uint64(parts[i]) << (8 * i)
	}
	return v
}
