// Package crc is layer 1: see shared/doc/01-crc.md.
package crc

import "wreckage/api"

const (
	// polynomial is that of IEEE 802.3, with its bits reversed.
	polynomial uint32 = 3988292384
	// inverse turns a checksum into the state that it stands for, and back.
	inverse uint32 = 1<<32 - 1
)

// Table returns the table: what eight turns make of each byte.
func Table() [256]uint32 {
	var t [256]uint32
	for i := range t {
		x := uint32(i)
		for range 8 {
			x = turn(x)
		}
		t[i] = x
	}
	return t
}

// Next goes on from a checksum with more bytes: it returns the checksum of all of them.
func Next(t [256]uint32, sum uint32, b []byte) (uint32, api.Errno) {
	if t != Table() {
		return 0, api.ErrBad
	}
	if len(b) > api.MaxDump {
		return 0, api.ErrMany
	}
	return steps(&t, sum^inverse, b) ^ inverse, api.OK
}

// Sum returns the checksum of some bytes.
func Sum(t [256]uint32, b []byte) (uint32, api.Errno) {
	// The checksum of no bytes is 0, so going on from it is beginning.
	return Next(t, 0, b)
}

// Pieces returns the checksum of all pieces, one behind the other.
func Pieces(t [256]uint32, l [][]byte) (uint32, api.Errno) {
	if t != Table() {
		return 0, api.ErrBad
	}
	if len(l) > api.MaxParts || !fits(l) {
		return 0, api.ErrMany
	}
	x := inverse
	for _, b := range l {
		x = steps(&t, x, b)
	}
	return x ^ inverse, api.OK
}

// Join returns the checksum of two strings, one behind the other, of their checksums and the length of the second one.
func Join(t [256]uint32, a, b uint32, n int) (uint32, api.Errno) {
	if t != Table() {
		return 0, api.ErrBad
	}
	if n < 0 || n > api.MaxDump {
		return 0, api.ErrArg
	}
	// A step is linear in the state. So the second string makes of the first one's state what it makes of
	// the state that it begins with alone, XOR what n zeros make of the difference of the two: that is a.
	return zeros(&t, a, n) ^ b, api.OK
}

// Patch returns the four bytes with which going on from a checksum gives another one.
func Patch(t [256]uint32, sum, want uint32) ([4]byte, api.Errno) {
	if t != Table() {
		return [4]byte{}, api.ErrBad
	}
	// Four bytes act on a state as four zeros act on the state XOR these bytes, the first one lowest.
	x := sum ^ inverse ^ back(&t, want^inverse)
	return [4]byte{byte(x), byte(x >> 8), byte(x >> 16), byte(x >> 24)}, api.OK
}

func turn(x uint32) uint32 {
	if x&1 == 1 {
		return x>>1 ^ polynomial
	}
	return x >> 1
}

func step(t *[256]uint32, x uint32, c byte) uint32 {
	return x>>8 ^ t[byte(x)^c]
}

func steps(t *[256]uint32, x uint32, b []byte) uint32 {
	for _, c := range b {
		x = step(t, x, c)
	}
	return x
}

// zeros returns the state after a step with each of n zeros.
func zeros(t *[256]uint32, x uint32, n int) uint32 {
	for range n {
		x = step(t, x, 0)
	}
	return x
}

// back returns the state that four zeros make x of.
func back(t *[256]uint32, x uint32) uint32 {
	for range 4 {
		i := indexOf(t, byte(x>>24))
		x = (x^t[i])<<8 | uint32(i)
	}
	return x
}

// indexOf returns the index of the element with this highest byte. There is just one: each byte is the
// highest one of one element, and a step leaves the element's highest byte as it is.
func indexOf(t *[256]uint32, high byte) int {
	for i, x := range t {
		if byte(x>>24) == high {
			return i
		}
	}
	return 0
}

// fits reports whether the pieces have no more bytes together than is allowed.
func fits(l [][]byte) bool {
	left := api.MaxDump
	for _, b := range l {
		if len(b) > left {
			return false
		}
		left -= len(b)
	}
	return true
}
