package tape_test

import (
	"bytes"
	"math"
	"math/big"
	"testing"

	"deedbox/tape"
)

// numbers is numbers of all kinds: each bit, all below and above it, those by which x is counted on, and some by chance.
func numbers() []uint64 {
	l := []uint64{0, 1, 2, 3, 255, 256, 257, 258, math.MaxUint64, math.MaxUint64 - 1, 0x0102030405060708, 6364136223846793005, 1442695040888963407}
	for shift := range 64 {
		l = append(l, 1<<shift, 1<<shift-1, math.MaxUint64<<shift)
	}
	x := uint64(88172645463325252)
	for range 50 {
		x ^= x << 13
		x ^= x >> 7
		x ^= x << 17
		l = append(l, x)
	}
	return l
}

// slowNoise is the chapter's words, in numbers without bounds that are cut to 64 bits.
func slowNoise(n uint64, size int) []byte {
	a, _ := new(big.Int).SetString("6364136223846793005", 10)
	c, _ := new(big.Int).SetString("1442695040888963407", 10)
	bound := new(big.Int).Lsh(big.NewInt(1), 64)
	x := new(big.Int).SetUint64(n)
	b := x.FillBytes(make([]byte, 8))
	for len(b) < size {
		x.Mul(x, a).Add(x, c).Mod(x, bound)
		b = append(b, byte(new(big.Int).Rsh(x, 56).Uint64()))
	}
	return b[:max(size, 0)]
}

// TestNoiseKnown: 11.4, bytes that were worked out by hand: of nought x is 1442695040888963407 (0x14057b7ef767814f) first.
func TestNoiseKnown(t *testing.T) {
	for _, c := range []struct {
		n    uint64
		size int
		want []byte
	}{
		{0, 8, []byte{0, 0, 0, 0, 0, 0, 0, 0}},
		{0, 9, []byte{0, 0, 0, 0, 0, 0, 0, 0, 0x14}},
		// 6364136223846793005 is 0x5851f42d4c957f2d: with the other one it is 0x6c576fabc3fd007c.
		{1, 9, []byte{0, 0, 0, 0, 0, 0, 0, 1, 0x6c}},
		{258, 8, []byte{0, 0, 0, 0, 0, 0, 1, 2}},
		{0x0102030405060708, 8, []byte{1, 2, 3, 4, 5, 6, 7, 8}},
		{math.MaxUint64, 8, []byte{255, 255, 255, 255, 255, 255, 255, 255}},
		// 0x14057b7ef767814f less 0x5851f42d4c957f2d is 0xbbb38751aad20222, in 64 bits.
		{math.MaxUint64, 9, []byte{255, 255, 255, 255, 255, 255, 255, 255, 0xbb}},
		{0x0102030405060708, 3, []byte{1, 2, 3}},
		{0x0102030405060708, 1, []byte{1}},
		{258, 7, []byte{0, 0, 0, 0, 0, 0, 1}},
	} {
		if got := tape.Noise(c.n, c.size); !bytes.Equal(got, c.want) {
			t.Errorf("Noise(%#x, %d): %x; want %x", c.n, c.size, got, c.want)
		}
	}
}

// TestNoise: 11.4, numbers of all kinds, at all lengths up to a bound, against the chapter's words.
func TestNoise(t *testing.T) {
	for _, n := range numbers() {
		for size := range 70 {
			if got, want := tape.Noise(n, size), slowNoise(n, size); !bytes.Equal(got, want) {
				t.Fatalf("Noise(%#x, %d): %x; want %x", n, size, got, want)
			}
		}
	}
}

// TestNoiseLong: 11.4, as many bytes as things of the store have, and more.
func TestNoiseLong(t *testing.T) {
	for _, size := range []int{512, 1024, 1<<14 + 16, 200001} {
		if got, want := tape.Noise(77, size), slowNoise(77, size); !bytes.Equal(got, want) {
			t.Errorf("%d bytes are not right", size)
		}
	}
}

// TestNoiseNone: 11.4, of no bytes, and of fewer than none, there are none.
func TestNoiseNone(t *testing.T) {
	for _, size := range []int{0, -1, -2, -8, -9, math.MinInt32, math.MinInt + 1, math.MinInt} {
		for _, n := range []uint64{0, 1, math.MaxUint64} {
			if got := tape.Noise(n, size); len(got) != 0 {
				t.Errorf("Noise(%#x, %d): %x", n, size, got)
			}
		}
	}
}

// TestNoiseBeyondAllBounds: a size for which no memory could be had must not stop the program.
func TestNoiseBeyondAllBounds(t *testing.T) {
	for _, size := range []int{math.MaxInt32 + 1, math.MaxInt} {
		if got := tape.Noise(1, size); len(got) != 0 {
			t.Errorf("Noise(1, %d) has %d bytes", size, len(got))
		}
	}
}

// TestNoiseGrows: 11.5, fewer bytes are the first ones of more.
func TestNoiseGrows(t *testing.T) {
	const most = 300
	for _, n := range numbers() {
		all := tape.Noise(n, most)
		for size := range most {
			if got := tape.Noise(n, size); !bytes.Equal(got, all[:size]) {
				t.Fatalf("Noise(%#x, %d): %x; of more %x", n, size, got, all[:size])
			}
		}
	}
}

// TestNoiseUnlike: 11.5, eight bytes or more are unlike, if the numbers are.
func TestNoiseUnlike(t *testing.T) {
	all := numbers()
	for n := range uint64(2000) {
		all = append(all, n)
	}
	for _, size := range []int{8, 9, 16, 32, 40} {
		whose := map[string]uint64{}
		for _, n := range all {
			b := string(tape.Noise(n, size))
			if m, ok := whose[b]; ok && m != n {
				t.Errorf("%#x and %#x have the same %d bytes: %x", n, m, size, b)
			}
			whose[b] = n
		}
	}
}

// TestNoiseIsNew: R3 and P8, an answer that is written to does not change the next one, which is the same again.
func TestNoiseIsNew(t *testing.T) {
	for _, size := range []int{1, 8, 9, 100} {
		turn(tape.Noise(5, size))
		if got, want := tape.Noise(5, size), slowNoise(5, size); !bytes.Equal(got, want) {
			t.Errorf("%x; want %x", got, want)
		}
	}
}
