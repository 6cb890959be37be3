package sha

import (
	"math/bits"

	"deedbox/octet"
)

const (
	wordSize = 4
	rounds   = 64
)

// words is a sum so far, or what the rounds make of it: a to h.
type words [8]uint32

// schedule is the words of one block: its own, and those that are made of them.
type schedule [rounds]uint32

// roundConstants: of the cube roots of the first 64 primes the first 32 bits of the fractional parts.
var roundConstants = [rounds]uint32{
	0x428a2f98, 0x71374491, 0xb5c0fbcf, 0xe9b5dba5, 0x3956c25b, 0x59f111f1, 0x923f82a4, 0xab1c5ed5,
	0xd807aa98, 0x12835b01, 0x243185be, 0x550c7dc3, 0x72be5d74, 0x80deb1fe, 0x9bdc06a7, 0xc19bf174,
	0xe49b69c1, 0xefbe4786, 0x0fc19dc6, 0x240ca1cc, 0x2de92c6f, 0x4a7484aa, 0x5cb0a9dc, 0x76f988da,
	0x983e5152, 0xa831c66d, 0xb00327c8, 0xbf597fc7, 0xc6e00bf3, 0xd5a79147, 0x06ca6351, 0x14292967,
	0x27b70a85, 0x2e1b2138, 0x4d2c6dfc, 0x53380d13, 0x650a7354, 0x766a0abb, 0x81c2c92e, 0x92722c85,
	0xa2bfe8a1, 0xa81a664b, 0xc24b8b70, 0xc76c51a3, 0xd192e819, 0xd6990624, 0xf40e3585, 0x106aa070,
	0x19a4c116, 0x1e376c08, 0x2748774c, 0x34b0bcb5, 0x391c0cb3, 0x4ed8aa4a, 0x5b9cca4f, 0x682e6ff3,
	0x748f82ee, 0x78a5636f, 0x84c87814, 0x8cc70208, 0x90befffa, 0xa4506ceb, 0xbef9a3f7, 0xc67178f2,
}

// firstWords is the sum ahead of the first block: of the square roots of the first eight primes the first 32 bits of the fractional parts.
func firstWords() words {
	return words{
		0x6a09e667, 0xbb67ae85, 0x3c6ef372, 0xa54ff53a,
		0x510e527f, 0x9b05688c, 0x1f83d9ab, 0x5be0cd19,
	}
}

// take is a sum so far with one more block taken.
func take(sum words, block [Block]byte) words {
	made := sum
	for i, w := range spread(block) {
		made = round(made, roundConstants[i]+w)
	}
	return added(sum, made)
}

func spread(block [Block]byte) schedule {
	var w schedule
	for i := range Block / wordSize {
		w[i] = uint32(octet.Get(block[i*wordSize : (i+1)*wordSize]))
	}
	for i := Block / wordSize; i < rounds; i++ {
		w[i] = w[i-16] + w[i-7] + early(w[i-15]) + late(w[i-2])
	}
	return w
}

// round is the words behind one round, whose constant and word come as one number: they are only added.
func round(v words, k uint32) words {
	a, b, c, d, e, f, g, h := v[0], v[1], v[2], v[3], v[4], v[5], v[6], v[7]
	t := h + turns(e, 6, 11, 25) + (e&f | ^e&g) + k
	u := turns(a, 2, 13, 22) + (a&b | a&c | b&c)
	return words{t + u, a, b, c, d + t, e, f, g}
}

func early(x uint32) uint32 { return right(x, 7) ^ right(x, 18) ^ x>>3 }

func late(x uint32) uint32 { return right(x, 17) ^ right(x, 19) ^ x>>10 }

func turns(x uint32, i, j, k int) uint32 { return right(x, i) ^ right(x, j) ^ right(x, k) }

func right(x uint32, by int) uint32 { return bits.RotateLeft32(x, -by) }

func added(v, w words) words {
	for i := range v {
		v[i] += w[i]
	}
	return v
}

// bytes is words one behind the other, each with its highest byte first.
func (v words) bytes() [Size]byte {
	var out [Size]byte
	for i, x := range v {
		copy(out[i*wordSize:], octet.Put(uint64(x), wordSize))
	}
	return out
}
