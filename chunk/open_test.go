package chunk_test

import (
	"bytes"
	"math"
	"testing"

	"deedbox/api"
	"deedbox/chunk"
	"deedbox/seal"
)

// opens holds a piece that is opened against what it should be.
func opens(t *testing.T, s *seal.Sealer, key, what []byte, size, i int, block, want []byte) {
	t.Helper()
	if got, code := chunk.Open(s, key, what, size, i, block); code != api.OK || !bytes.Equal(got, want) {
		t.Errorf("ideal %t: piece %d of %d bytes: %x, code %d; want %x", s.Ideal(), i, size, got, code, want)
	}
}

// refuses asks for what should not open: a code, and nothing else.
func refuses(t *testing.T, s *seal.Sealer, key, what []byte, size, i int, block []byte, want api.Code) {
	t.Helper()
	if got, code := chunk.Open(s, key, what, size, i, block); code != want || len(got) != 0 {
		t.Errorf("piece %d of %d bytes, of a block of %d: %x, code %d; want code %d", i, size, len(block), got, code, want)
	}
}

// turned is bytes with one bit turned.
func turned(b []byte, bit int) []byte {
	out := bytes.Clone(b)
	out[bit/8] ^= 0x80 >> (bit % 8)
	return out
}

// TestExample: the chapter's example.
func TestExample(t *testing.T) {
	for _, s := range kinds() {
		text := row(1000, 1)
		l := sealedBy(t, s, keyOf(1), []byte("x"), text)
		if len(l) != 3 || chunk.Count(1000) != 3 {
			t.Errorf("%d pieces", len(l))
		}
		if got, code := chunk.Open(s, keyOf(1), []byte("x"), 1000, 2, l[2]); code != api.OK || len(got) != 8 || !bytes.Equal(got, text[992:]) {
			t.Errorf("%x, code %d", got, code)
		}
	}
}

// TestThereAndBack: 13.3, each piece is opened as it was, in any order, once more, too.
func TestThereAndBack(t *testing.T) {
	for _, s := range kinds() {
		n := 0
		for i, what := range whats() {
			for j, size := range sizes() {
				key, text := keyOf(uint32(100*i+j)), row(size, uint32(j))
				l, parts := sealedBy(t, s, key, what, text), partsOf(size)
				n += len(l)
				for range 2 {
					for k := len(l) - 1; k >= 0; k-- {
						opens(t, s, key, what, size, k, l[k], text[parts[k].from:parts[k].to])
					}
				}
			}
		}
		tells(t, s, n, false)
	}
}

// TestOpenMost: 13.3, a text of MaxSize bytes, the pieces with great numbers, too.
func TestOpenMost(t *testing.T) {
	for _, s := range kinds() {
		text := row(chunk.MaxSize, 1)
		l := sealedBy(t, s, keyOf(1), nil, text)
		for i, p := range partsOf(len(text)) {
			opens(t, s, keyOf(1), nil, len(text), i, l[i], text[p.from:p.to])
		}
		refuses(t, s, keyOf(1), nil, len(text), 2115, l[2114], api.ErrRange)
		refuses(t, s, keyOf(1), nil, len(text)+1, 2114, l[2114], api.ErrRange)
	}
}

// TestOpenOfOthers: 13.3 and P5, what Go's own library sealed so opens for real.
func TestOpenOfOthers(t *testing.T) {
	g := library(t, keyOf(1))
	for _, what := range whats() {
		for _, size := range sizes() {
			text, parts := row(size, 1), partsOf(size)
			for i, p := range parts {
				b := full(g.Seal(nil, nonceOf(i), text[p.from:p.to], besideOf(what, i, i == len(parts)-1)))
				s := seal.New(false)
				opens(t, s, keyOf(1), what, size, i, b, text[p.from:p.to])
				if !s.Forged() || s.Sealed() != 0 {
					t.Errorf("forged %t, %d sealed", s.Forged(), s.Sealed())
				}
				refuses(t, seal.New(true), keyOf(1), what, size, i, b, api.ErrIntegrity)
			}
		}
	}
}

// TestOpenCodes: 13.3 and R6, with one thing wrong, and with all that are named behind it wrong, too.
func TestOpenCodes(t *testing.T) {
	what, text := []byte("x"), row(1000, 1)
	for _, s := range kinds() {
		l := sealedBy(t, s, keyOf(1), what, text)
		good, dirty, short := keyOf(1), turned(l[2], 8*511+7), l[2][:511]
		for _, key := range [][]byte{good, nil, good[1:], row(33, 1)} {
			for _, block := range [][]byte{l[2], dirty, short, nil} {
				refuses(t, nil, key, what, 1000, 2, block, api.ErrArg)
				refuses(t, nil, key, what, -1, 2, block, api.ErrArg)
				refuses(t, nil, key, what, 1000, 3, block, api.ErrArg)
				refuses(t, s, key, what, -1, 2, block, api.ErrRange)
				refuses(t, s, key, what, 1000, 3, block, api.ErrRange)
			}
			refuses(t, s, key, what, 1000, 2, short, api.ErrSize)
			refuses(t, s, key, what, 1000, 2, append(bytes.Clone(dirty), 0), api.ErrSize)
			refuses(t, s, key, what, 1000, 2, dirty, api.ErrIntegrity)
		}
		for n := range 70 {
			if n != 32 {
				refuses(t, s, row(n, 1), what, 1000, 2, l[2], api.ErrSize)
				refuses(t, s, row(n, 1), what, 1000, 1, l[1], api.ErrSize)
			}
		}
		opens(t, s, good, what, 1000, 2, l[2], text[992:])
		tells(t, s, 3, false)
	}
}

// TestOpenRange: 13.3, sizes below 0 and above MaxSize, and pieces that there are not.
func TestOpenRange(t *testing.T) {
	great := []int{math.MinInt, math.MinInt + 1, math.MinInt32, -496, -1}
	for _, s := range kinds() {
		l := sealedBy(t, s, keyOf(1), nil, nil)
		for _, size := range append(great, chunk.MaxSize+1, chunk.MaxSize+496, math.MaxInt32, math.MaxInt-1, math.MaxInt) {
			for _, i := range []int{0, 1, -1, 2114, 2115, math.MaxInt, math.MinInt} {
				refuses(t, s, keyOf(1), nil, size, i, l[0], api.ErrRange)
			}
		}
		for _, size := range append(sizes(), chunk.MaxSize-1, chunk.MaxSize) {
			n := len(partsOf(size))
			for _, i := range append(great, n, n+1, n+4096, 1<<32, 1<<32+n-1, math.MaxInt32, math.MaxInt-1, math.MaxInt) {
				refuses(t, s, keyOf(1), nil, size, i, l[0], api.ErrRange)
			}
		}
		// Of numbers that are not out of range it is something else that is wrong.
		refuses(t, s, keyOf(1), nil, chunk.MaxSize, 2114, l[0], api.ErrIntegrity)
		refuses(t, s, keyOf(1), nil, chunk.MaxSize, 0, l[0], api.ErrIntegrity)
		opens(t, s, keyOf(1), nil, 0, 0, l[0], nil)
	}
}

// TestOpenBlocks: 13.3, blocks of all lengths but Block.
func TestOpenBlocks(t *testing.T) {
	for _, s := range kinds() {
		for _, size := range []int{0, 5, 496} {
			l := sealedBy(t, s, keyOf(uint32(size)), nil, row(size, 1))
			whole := append(bytes.Clone(l[0]), make([]byte, 600)...)
			for n := range len(whole) + 1 {
				if n != 512 {
					refuses(t, s, keyOf(uint32(size)), nil, size, 0, whole[:n], api.ErrSize)
				}
			}
			opens(t, s, keyOf(uint32(size)), nil, size, 0, whole[:512], row(size, 1))
		}
	}
}

// TestOpenBehind: 13.3, a byte behind the piece and its tag that is not nought.
func TestOpenBehind(t *testing.T) {
	for _, s := range kinds() {
		for _, size := range []int{0, 1, 8, 300, 494, 495} {
			key := keyOf(uint32(size))
			l := sealedBy(t, s, key, nil, row(size, 1))
			for at := size + 16; at < 512; at++ {
				for bit := range 8 {
					refuses(t, s, key, nil, size, 0, turned(l[0], 8*at+bit), api.ErrIntegrity)
				}
			}
			// Two that are the same don't make up for each other.
			if size < 495 {
				refuses(t, s, key, nil, size, 0, turned(turned(l[0], 8*510), 8*511), api.ErrIntegrity)
			}
			opens(t, s, key, nil, size, 0, l[0], row(size, 1))
		}
		tells(t, s, 6, false)
	}
}

// TestEachBitCounts: 13.3, each bit of a piece and its tag, of the key, and of what it is.
func TestEachBitCounts(t *testing.T) {
	what, text := row(6, 1), row(496+20, 2)
	for _, s := range kinds() {
		l := sealedBy(t, s, keyOf(1), what, text)
		for i := range l {
			for bit := range 8 * 512 {
				refuses(t, s, keyOf(1), what, len(text), i, turned(l[i], bit), api.ErrIntegrity)
			}
			for bit := range 8 * 32 {
				refuses(t, s, turned(keyOf(1), bit), what, len(text), i, l[i], api.ErrIntegrity)
			}
			for bit := range 8 * len(what) {
				refuses(t, s, keyOf(1), turned(what, bit), len(text), i, l[i], api.ErrIntegrity)
			}
			for _, w := range [][]byte{nil, what[1:], what[:5], append(row(6, 1), 0)} {
				refuses(t, s, keyOf(1), w, len(text), i, l[i], api.ErrIntegrity)
			}
		}
		tells(t, s, 2, false)
	}
}
