package aes_test

import (
	"testing"

	"deedbox/aes"
)

// boxes is what FIPS 197 gives for all bytes, sixteen a row.
const boxes = "" +
	"637c777bf26b6fc53001672bfed7ab76" +
	"ca82c97dfa5947f0add4a2af9ca472c0" +
	"b7fd9326363ff7cc34a5e5f171d83115" +
	"04c723c31896059a071280e2eb27b275" +
	"09832c1a1b6e5aa0523bd6b329e32f84" +
	"53d100ed20fcb15b6acbbe394a4c58cf" +
	"d0efaafb434d338545f9027f503c9fa8" +
	"51a3408f929d38f5bcb6da2110fff3d2" +
	"cd0c13ec5f974417c4a77e3d645d1973" +
	"60814fdc222a908846eeb814de5e0bdb" +
	"e0323a0a4906245cc2d3ac629195e479" +
	"e7c8376d8dd54ea96c56f4ea657aae08" +
	"ba78252e1ca6b4c6e8dd741f4bbd8b8a" +
	"703eb5664803f60e613557b986c11d9e" +
	"e1f8981169d98e949b1e87e9ce5528df" +
	"8ca1890dbfe6426841992d0fb054bb16"

// times is the product of two bytes as 4.1 has it: bit by bit, and what is too high is taken off from the top.
func times(a, b byte) byte {
	product := 0
	for i := range 8 {
		if b>>i&1 == 1 {
			product ^= int(a) << i
		}
	}
	for i := 14; i >= 8; i-- {
		if product>>i&1 == 1 {
			product ^= 0x11b << (i - 8)
		}
	}
	return byte(product)
}

// inverse is the byte that times c is 1 (0 of 0), looked for among all.
func inverse(c byte) byte {
	for x := range 256 {
		if times(byte(x), c) == 1 {
			return byte(x)
		}
	}
	return 0
}

// boxOf is 4.1, word by word.
func boxOf(c byte) byte {
	x := inverse(c)
	out := byte(0)
	for i := range 8 {
		bit := byte(0x63) >> i & 1
		for _, up := range []int{0, 4, 5, 6, 7} {
			bit ^= x >> ((i + up) % 8) & 1
		}
		out |= bit << i
	}
	return out
}

// TestBox: 4.1, at all bytes, as its words say and as the standard has it.
func TestBox(t *testing.T) {
	tables := aes.Build()
	for c, want := range unhex(t, boxes) {
		if got := tables.Box(byte(c)); got != want || got != boxOf(byte(c)) {
			t.Errorf("Box(%02x): %02x, want %02x, by its words %02x", c, got, want, boxOf(byte(c)))
		}
	}
}

// TestBoxOfNought: 4.1, the byte that has no inverse.
func TestBoxOfNought(t *testing.T) {
	if got := aes.Build().Box(0); got != 0x63 {
		t.Errorf("%02x", got)
	}
}

// TestBoxIsOneToOne: unlike bytes become unlike ones, and none stays itself.
func TestBoxIsOneToOne(t *testing.T) {
	tables := aes.Build()
	seen := map[byte]int{}
	for c := range 256 {
		x := tables.Box(byte(c))
		if before, ok := seen[x]; ok {
			t.Errorf("%02x and %02x both become %02x", before, c, x)
		}
		if int(x) == c {
			t.Errorf("%02x stays itself", c)
		}
		seen[x] = c
	}
}

// TestBuildAgain: 4.1 and P8, tables are the same as ever, and no two share memory.
func TestBuildAgain(t *testing.T) {
	one, other := aes.Build(), aes.Build()
	if one == nil || other == nil || one == other {
		t.Fatalf("%p and %p", one, other)
	}
	if *one != *other {
		t.Error("tables are unlike")
	}
	*one = aes.Tables{}
	if other.Box(0x53) != 0xed || aes.Build().Box(0x53) != 0xed {
		t.Error("tables that are written over change others")
	}
}
