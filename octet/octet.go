// Package octet is layer 1: numbers and texts as bytes, the highest byte first. See shared/doc/01-octet.md.
package octet

import (
	"math"
)

const (
	lengthSize = 4
	digits     = "0123456789abcdef"
)

// Put is a number in so many bytes, the highest first.
func Put(n uint64, size int) []byte {
	// Nothing is promised of longer answers; memory for them might not be there, and that could not be caught.
	if size < 1 || size > math.MaxInt32 {
		return nil
	}
	b := make([]byte, size)
	for i := size - 1; i >= 0 && n > 0; i-- {
		b[i] = byte(n)
		n >>= 8
	}
	return b
}

// Get is the number of bytes, the highest first: of the last eight, if there are more.
func Get(b []byte) uint64 {
	n := uint64(0)
	for _, x := range b {
		// Bytes ahead of the last eight are shifted out.
		n = n<<8 | uint64(x)
	}
	return n
}

// Join is parts, one behind the other, in new memory.
func Join(parts ...[]byte) []byte {
	out := make([]byte, 0, total(parts))
	for _, p := range parts {
		out = append(out, p...)
	}
	return out
}

// Pack is parts, each with its length ahead: unlike parts are unlike bytes.
func Pack(parts ...[]byte) []byte {
	out := make([]byte, 0, total(parts)+lengthSize*len(parts))
	for _, p := range parts {
		out = append(out, Put(uint64(len(p)), lengthSize)...)
		out = append(out, p...)
	}
	return out
}

func total(parts [][]byte) int {
	n := 0
	for _, p := range parts {
		n += len(p)
	}
	return n
}

// Same tells whether two rows of bytes are the same; it looks at all of them, so that how long it takes does not tell where they part.
func Same(a, b []byte) bool {
	if len(a) != len(b) {
		return false
	}
	unlike := byte(0)
	for i, x := range a {
		unlike |= x ^ b[i]
	}
	return unlike == 0
}

// Xor is two rows of bytes, bit by bit, as far as both go.
func Xor(a, b []byte) []byte {
	out := make([]byte, min(len(a), len(b)))
	for i := range out {
		out[i] = a[i] ^ b[i]
	}
	return out
}

// Hex is bytes as digits of sixteen.
func Hex(b []byte) string {
	out := make([]byte, 0, 2*len(b))
	for _, x := range b {
		out = append(out, digits[x>>4], digits[x&15])
	}
	return string(out)
}
