package seal_test

import (
	"testing"

	"deedbox/api"
	"deedbox/seal"
	"deedbox/tape"
)

// TestOpenSizes: 12.3 and R2, ErrSize and nothing else, as for Seal, whatever is to be opened.
func TestOpenSizes(t *testing.T) {
	for _, s := range kinds() {
		b := sealedBy(t, s, row(100, 1)[:32], row(60, 2)[:12], nil, row(5, 3))
		wrongSizes(func(key, nonce []byte) {
			refuses(t, s, key, nonce, nil, b, api.ErrSize)
			refuses(t, s, key, nonce, nil, nil, api.ErrSize)
		})
		opens(t, s, row(100, 1)[:32], row(60, 2)[:12], nil, b, row(5, 3))
		tells(t, s, 1, false, false)
	}
}

// TestThereAndBack: 12.3 and 12.6, what was sealed is opened as it was, at once, once more, and behind all else that is sealed.
func TestThereAndBack(t *testing.T) {
	for _, s := range kinds() {
		type kept struct {
			thing
			sealed []byte
		}
		var all []kept
		for i, n := range lengths() {
			for j, m := range []int{0, 1, 16, 40} {
				x := thing{keyOf(uint32(i)), seal.Nonce(uint64(j), 7), row(m, uint32(i)), row(n, uint32(j))}
				b := sealedBy(t, s, x.key, x.nonce, x.beside, x.text)
				opens(t, s, x.key, x.nonce, x.beside, b, x.text)
				all = append(all, kept{x, b})
			}
		}
		for range 2 {
			for _, x := range all {
				opens(t, s, x.key, x.nonce, x.beside, x.sealed, x.text)
			}
		}
		tells(t, s, len(all), false, false)
	}
}

// TestEachBitCounts: 12.3, a turned bit of the key, of the nonce, of what stands beside, or of what is sealed.
func TestEachBitCounts(t *testing.T) {
	key, nonce, beside, text := keyOf(1), seal.Nonce(5, 6), row(9, 2), row(20, 3)
	for _, s := range kinds() {
		b := sealedBy(t, s, key, nonce, beside, text)
		for bit := range 8 * len(key) {
			refuses(t, s, turned(key, bit), nonce, beside, b, api.ErrIntegrity)
		}
		for bit := range 8 * len(nonce) {
			refuses(t, s, key, turned(nonce, bit), beside, b, api.ErrIntegrity)
		}
		for bit := range 8 * len(beside) {
			refuses(t, s, key, nonce, turned(beside, bit), b, api.ErrIntegrity)
		}
		for bit := range 8 * len(b) {
			refuses(t, s, key, nonce, beside, turned(b, bit), api.ErrIntegrity)
		}
		opens(t, s, key, nonce, beside, b, text)
		tells(t, s, 1, false, false)
	}
}

// TestEachLengthCounts: 12.3, bytes that are left out, or put behind, or that change sides; of fewer than a tag, too, it is ErrIntegrity.
func TestEachLengthCounts(t *testing.T) {
	key, nonce, beside, text := keyOf(1), seal.Nonce(5, 6), row(9, 2), row(20, 3)
	for _, s := range kinds() {
		b := sealedBy(t, s, key, nonce, beside, text)
		for n := range b {
			refuses(t, s, key, nonce, beside, b[:n], api.ErrIntegrity)
			refuses(t, s, key, nonce, beside, b[n+1:], api.ErrIntegrity)
			refuses(t, s, key, nonce, append(row(9, 2), b[:n+1]...), b[n+1:], api.ErrIntegrity)
		}
		for n := range beside {
			refuses(t, s, key, nonce, beside[:n], b, api.ErrIntegrity)
			refuses(t, s, key, nonce, beside[:n], append(row(9, 2)[n:], b...), api.ErrIntegrity)
		}
		refuses(t, s, key, nonce, beside, append(b[:len(b):len(b)], 0), api.ErrIntegrity)
		refuses(t, s, key, nonce, append(row(9, 2), 0), b, api.ErrIntegrity)
		refuses(t, s, key, nonce, beside, nil, api.ErrIntegrity)
		tells(t, s, 1, false, false)
	}
}

// TestEachInItsPlace: 12.3, of several things in the book each opens with its own key, nonce and what stands beside alone, and each sealed of one thing opens.
func TestEachInItsPlace(t *testing.T) {
	var all []thing
	for i := range uint32(2) {
		for j := range uint32(2) {
			for k := range uint32(2) {
				all = append(all, thing{keyOf(i), seal.Nonce(1, j), row(4, k), row(10, 4*i+2*j+k)})
			}
		}
	}
	for _, s := range kinds() {
		var sealed [][]byte
		for _, x := range all {
			sealed = append(sealed, sealedBy(t, s, x.key, x.nonce, x.beside, x.text))
		}
		for i, x := range all {
			for j, b := range sealed {
				if i == j {
					opens(t, s, x.key, x.nonce, x.beside, b, x.text)
					continue
				}
				refuses(t, s, x.key, x.nonce, x.beside, b, api.ErrIntegrity)
			}
		}
	}
}

// TestTheSamePlaceTwice: 12.3, two texts under one key and nonce, beside the same: each opens as what it was, and so does a thing that was sealed twice.
func TestTheSamePlaceTwice(t *testing.T) {
	key, nonce, beside := keyOf(1), seal.Nonce(5, 6), row(3, 1)
	for _, s := range kinds() {
		one := sealedBy(t, s, key, nonce, beside, row(8, 1))
		two := sealedBy(t, s, key, nonce, beside, row(8, 2))
		again := sealedBy(t, s, key, nonce, beside, row(8, 1))
		none := sealedBy(t, s, key, nonce, beside, nil)
		for range 2 {
			opens(t, s, key, nonce, beside, one, row(8, 1))
			opens(t, s, key, nonce, beside, two, row(8, 2))
			opens(t, s, key, nonce, beside, again, row(8, 1))
			opens(t, s, key, nonce, beside, none, nil)
		}
		tells(t, s, 4, true, false)
	}
}

// TestWhatOthersSealed: 12.3, ideally it does not open, though the bytes are the same; for real it does, and is forged from then on: it does not come into the book.
func TestWhatOthersSealed(t *testing.T) {
	key, nonce, beside, text := keyOf(1), seal.Nonce(5, 6), row(3, 1), row(30, 2)
	for _, other := range kinds() {
		b := sealedBy(t, other, key, nonce, beside, text)
		ideal := seal.New(true)
		refuses(t, ideal, key, nonce, beside, b, api.ErrIntegrity)
		tells(t, ideal, 0, false, false)
	}
	b := library(t, key).Seal(nil, nonce, text, beside)
	s := seal.New(false)
	opens(t, s, key, nonce, beside, b, text)
	tells(t, s, 0, false, true)
	opens(t, s, key, nonce, beside, b, text)
	tells(t, s, 0, false, true)
	sealedBy(t, s, key, nonce, beside, row(30, 3))
	tells(t, s, 1, false, true)
	sealedBy(t, s, key, nonce, beside, text)
	tells(t, s, 2, true, true)
	opens(t, s, key, nonce, beside, b, text)
	tells(t, s, 2, true, true)
}

// TestForged: 12.3, what opens for real stands in the book so, with its key, nonce, what stood beside and what came of it, or it is forged.
func TestForged(t *testing.T) {
	key, nonce, beside, text := keyOf(1), seal.Nonce(5, 6), row(3, 1), row(30, 2)
	for _, c := range []struct {
		in   thing
		want bool
	}{
		{thing{key, nonce, beside, text}, false},
		{thing{keyOf(2), nonce, beside, text}, true},
		{thing{key, seal.Nonce(5, 7), beside, text}, true},
		{thing{key, nonce, row(3, 4), text}, true},
		{thing{key, nonce, nil, text}, true},
		{thing{key, nonce, beside, row(30, 5)}, true},
		{thing{key, nonce, beside, nil}, true},
		{thing{key, nonce, beside, turned(text, 239)}, true},
	} {
		s := seal.New(false)
		sealedBy(t, s, c.in.key, c.in.nonce, c.in.beside, c.in.text)
		b := library(t, key).Seal(nil, nonce, text, beside)
		opens(t, s, key, nonce, beside, b, text)
		tells(t, s, 1, false, c.want)
	}
}

// TestForgedOfNoBytes: 12.3, a tag alone is something that opens, too.
func TestForgedOfNoBytes(t *testing.T) {
	key, nonce := keyOf(1), seal.Nonce(5, 6)
	b := library(t, key).Seal(nil, nonce, nil, nil)
	s := seal.New(false)
	opens(t, s, key, nonce, nil, b, nil)
	tells(t, s, 0, false, true)
	s = seal.New(false)
	sealedBy(t, s, key, nonce, nil, nil)
	opens(t, s, key, nonce, nil, b, nil)
	tells(t, s, 1, false, false)
}

// TestForgedIsForEver: 12.3, whatever opens in between, and behind it; what does not open is not forged.
func TestForgedIsForEver(t *testing.T) {
	s, key := seal.New(false), keyOf(1)
	for i := range uint32(20) {
		b := sealedBy(t, s, key, seal.Nonce(1, i), nil, row(9, i))
		opens(t, s, key, seal.Nonce(1, i), nil, b, row(9, i))
		refuses(t, s, key, seal.Nonce(1, i+1), nil, b, api.ErrIntegrity)
		refuses(t, s, key, seal.Nonce(1, i), nil, b[:15], api.ErrIntegrity)
	}
	tells(t, s, 20, false, false)
	opens(t, s, key, seal.Nonce(2, 0), nil, library(t, key).Seal(nil, seal.Nonce(2, 0), row(4, 1), nil), row(4, 1))
	for i := range uint32(20) {
		tells(t, s, 20+int(i), false, true)
		b := sealedBy(t, s, key, seal.Nonce(3, i), nil, row(9, i))
		opens(t, s, key, seal.Nonce(3, i), nil, b, row(9, i))
	}
}

// TestNoiseIsNotSealed: 12.3, ideally the bytes of a number that was not taken yet, or was taken for a key, do not open; nor do those of one that was, cut or grown.
func TestNoiseIsNotSealed(t *testing.T) {
	s, key, nonce := seal.New(true), keyOf(1), seal.Nonce(5, 6)
	sealedBy(t, s, key, nonce, nil, row(16, 1))
	s.Derive(key)
	for n := range uint64(5) {
		for _, size := range []int{16, 31, 32, 33} {
			if n == 1 && size == 32 {
				opens(t, s, key, nonce, nil, tape.Noise(n, size), row(16, 1))
				continue
			}
			refuses(t, s, key, nonce, nil, tape.Noise(n, size), api.ErrIntegrity)
		}
	}
	tells(t, s, 1, false, false)
}

// TestOpenTakesNoNumber: 12.3 and P8, what is opened, and what does not open, changes nothing of what is sealed next.
func TestOpenTakesNoNumber(t *testing.T) {
	s, key, nonce := seal.New(true), keyOf(1), seal.Nonce(5, 6)
	for n := range uint64(20) {
		b := sealedBy(t, s, key, nonce, nil, nil)
		if want := tape.Noise(n+1, 16); string(b) != string(want) {
			t.Errorf("%x; want %x", b, want)
		}
		opens(t, s, key, nonce, nil, b, nil)
		refuses(t, s, key, nonce, b, b, api.ErrIntegrity)
		refuses(t, s, key[1:], nonce, nil, b, api.ErrSize)
	}
}
