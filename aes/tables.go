package aes

import (
	"math/bits"
)

const (
	// allBytes is how many bytes there are; allPowers how many of them are powers of three: all but 0.
	allBytes  = 256
	allPowers = allBytes - 1

	// modulus is x^8 + x^4 + x^3 + x + 1 without x^8, which does not go into a byte.
	modulus = 0x1b

	boxAdds = 0x63
)

// Tables is what bytes become: box by box, and twice as much.
type Tables struct {
	box, twice [allBytes]byte
}

// Build is the tables: each byte's inverse is found by going through the powers of three.
func Build() *Tables {
	t := &Tables{}
	for c, x := range inverses() {
		t.box[c] = bent(x)
		t.twice[c] = doubled(byte(c))
	}
	return t
}

// Box is what a byte becomes.
func (t *Tables) Box(c byte) byte { return t.box[c] }

// inverses is of each byte the one that times it is 1, and 0 of 0: three to the power of allPowers is 1, so two powers that come to that together are each other's.
func inverses() [allBytes]byte {
	power := powersOfThree()
	var out [allBytes]byte
	for i, c := range power {
		out[c] = power[(allPowers-i)%allPowers]
	}
	return out
}

func powersOfThree() [allPowers]byte {
	var out [allPowers]byte
	x := byte(1)
	for i := range out {
		out[i] = x
		x ^= doubled(x)
	}
	return out
}

// doubled is a byte times x, that is times 2.
func doubled(c byte) byte {
	if c>>7 == 1 {
		return c<<1 ^ modulus
	}
	return c << 1
}

// bent is the second half of the box: bit i + 4 comes to bit i by 4 places up, bit i + 7 by 1.
func bent(x byte) byte {
	out := x ^ boxAdds
	for up := 1; up <= 4; up++ {
		out ^= bits.RotateLeft8(x, up)
	}
	return out
}
