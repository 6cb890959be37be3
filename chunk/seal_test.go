package chunk_test

import (
	"bytes"
	"crypto/aes"
	"crypto/cipher"
	"encoding/binary"
	"testing"

	"deedbox/api"
	"deedbox/chunk"
	"deedbox/octet"
	"deedbox/seal"
	"deedbox/tape"
)

// row is so many bytes, of its own for each seed.
func row(n int, seed uint32) []byte {
	b := make([]byte, n)
	x := seed*2654435761 + 1
	for i := range b {
		x = x*1664525 + 1013904223
		b[i] = byte(x >> 24)
	}
	return b
}

func keyOf(seed uint32) []byte { return row(32, seed+5000) }

// kinds is a sealer of each kind, the ideal one first.
func kinds() []*seal.Sealer { return []*seal.Sealer{seal.New(true), seal.New(false)} }

// whats is what texts are: of none, of one byte, of such as lengths and the label are made of.
func whats() [][]byte {
	return [][]byte{nil, []byte("x"), []byte("chunk"), {0, 0, 0, 0}, {0, 0, 0, 1, 1}, row(20, 9), row(300, 9)}
}

// tells holds all that a sealer tells of its book against what is wanted.
func tells(t *testing.T, s *seal.Sealer, sealed int, reused bool) {
	t.Helper()
	if s.Sealed() != sealed || s.Reused() != reused || s.Forged() {
		t.Errorf("ideal %t: %d sealed, reused %t, forged %t; want %d, %t", s.Ideal(), s.Sealed(), s.Reused(), s.Forged(), sealed, reused)
	}
}

// sealedBy is the blocks of a text that can be sealed.
func sealedBy(t *testing.T, s *seal.Sealer, key, what, text []byte) [][]byte {
	t.Helper()
	l, code := chunk.Seal(s, key, what, text)
	if code != api.OK || len(l) != len(partsOf(len(text))) {
		t.Fatalf("ideal %t: Seal of %d bytes: %d blocks, code %d", s.Ideal(), len(text), len(l), code)
	}
	for i, b := range l {
		if len(b) != 512 {
			t.Fatalf("ideal %t: block %d of %d bytes has %d", s.Ideal(), i, len(text), len(b))
		}
	}
	return l
}

// nonceOf is a piece's nonce, byte by byte.
func nonceOf(i int) []byte {
	return binary.BigEndian.AppendUint32(make([]byte, 8), uint32(i))
}

// besideOf is what stands beside a piece, byte by byte.
func besideOf(what []byte, i int, last bool) []byte {
	b := append([]byte{0, 0, 0, 5}, "chunk"...)
	b = binary.BigEndian.AppendUint32(b, uint32(len(what)))
	b = append(b, what...)
	b = binary.BigEndian.AppendUint32(append(b, 0, 0, 0, 4), uint32(i))
	if last {
		return append(b, 0, 0, 0, 1, 1)
	}
	return append(b, 0, 0, 0, 1, 0)
}

// full is bytes with noughts behind, up to a block.
func full(b []byte) []byte { return append(bytes.Clone(b), make([]byte, 512-len(b))...) }

// library seals as Go's own library does.
func library(t *testing.T, key []byte) cipher.AEAD {
	t.Helper()
	b, err := aes.NewCipher(key)
	if err != nil {
		t.Fatal(err)
	}
	g, err := cipher.NewGCM(b)
	if err != nil {
		t.Fatal(err)
	}
	return g
}

// TestBeside: 13.2, what stands beside is octet.Pack of the label, what, the number in four bytes, and one byte.
func TestBeside(t *testing.T) {
	for _, what := range whats() {
		for _, i := range []int{0, 1, 255, 256, 2114} {
			if got, want := besideOf(what, i, false), octet.Pack([]byte("chunk"), what, octet.Put(uint64(i), 4), []byte{0}); !bytes.Equal(got, want) {
				t.Errorf("%x; want %x", got, want)
			}
			if got, want := besideOf(what, i, true), octet.Pack([]byte("chunk"), what, octet.Put(uint64(i), 4), []byte{1}); !bytes.Equal(got, want) {
				t.Errorf("%x; want %x", got, want)
			}
		}
	}
}

// sealsForReal holds a text's blocks against what Go's own library seals.
func sealsForReal(t *testing.T, s *seal.Sealer, key, what, text []byte) {
	t.Helper()
	g, parts := library(t, key), partsOf(len(text))
	for i, got := range sealedBy(t, s, key, what, text) {
		p := parts[i]
		want := full(g.Seal(nil, nonceOf(i), text[p.from:p.to], besideOf(what, i, i == len(parts)-1)))
		if !bytes.Equal(got, want) {
			t.Errorf("block %d of %d bytes, of %x: %x; want %x", i, len(text), what, got, want)
		}
	}
}

// TestSealForReal: 13.2 and P5, piece by piece what the standard has, with noughts behind.
func TestSealForReal(t *testing.T) {
	s, n := seal.New(false), 0
	for i, what := range whats() {
		for _, size := range sizes() {
			sealsForReal(t, s, keyOf(uint32(i)), what, row(size, uint32(i)))
			n += len(partsOf(size))
		}
	}
	tells(t, s, n, true)
}

// TestSealIdeally: 13.2, noise of each piece's length, piece by piece from the first one on, and nothing else of it.
func TestSealIdeally(t *testing.T) {
	s, n := seal.New(true), uint64(0)
	for i, what := range whats() {
		for j, size := range sizes() {
			parts := partsOf(size)
			for k, got := range sealedBy(t, s, keyOf(uint32(100*i+j)), what, row(size, uint32(i))) {
				n++
				if want := full(tape.Noise(n, parts[k].to-parts[k].from+16)); !bytes.Equal(got, want) {
					t.Errorf("block %d of %d bytes: %x; want %x", k, size, got, want)
				}
			}
		}
	}
	tells(t, s, int(n), false)
}

// TestSealIntoTheBook: 13.2, the sealer opens each piece under that key and nonce, with that beside; no nonce comes twice within a text.
func TestSealIntoTheBook(t *testing.T) {
	for _, s := range kinds() {
		what, text := []byte("abc"), row(300*496+7, 1)
		l := sealedBy(t, s, keyOf(1), what, text)
		for i, p := range partsOf(len(text)) {
			b := l[i][:p.to-p.from+16]
			got, code := s.Open(keyOf(1), nonceOf(i), besideOf(what, i, i == len(l)-1), b)
			if code != api.OK || !bytes.Equal(got, text[p.from:p.to]) {
				t.Errorf("ideal %t: piece %d: %x, code %d", s.Ideal(), i, got, code)
			}
			if _, code := s.Open(keyOf(1), nonceOf(i), besideOf(what, i, i != len(l)-1), b); code != api.ErrIntegrity {
				t.Errorf("ideal %t: piece %d opens as the last one, or as another: code %d", s.Ideal(), i, code)
			}
		}
		tells(t, s, 301, false)
	}
}

// TestSealAsBefore: 13.2, the same text sealed again takes no nonce for anything else; another one does.
func TestSealAsBefore(t *testing.T) {
	for _, s := range kinds() {
		sealedBy(t, s, keyOf(1), []byte("x"), row(1000, 1))
		sealedBy(t, s, keyOf(1), []byte("x"), row(1000, 1))
		sealedBy(t, s, keyOf(2), []byte("y"), row(1000, 2))
		tells(t, s, 9, false)
		sealedBy(t, s, keyOf(1), []byte("y"), row(1000, 1))
		tells(t, s, 12, true)
	}
}

// TestSealMost: 13.2, MaxSize bytes are sealed, one more is not: ErrSize, and nothing is.
func TestSealMost(t *testing.T) {
	text := row(chunk.MaxSize+1, 1)
	real := seal.New(false)
	sealsForReal(t, real, keyOf(1), []byte("x"), text[:chunk.MaxSize])
	tells(t, real, 2115, false)
	for _, s := range kinds() {
		for _, b := range [][]byte{text, make([]byte, chunk.MaxSize+496), make([]byte, 2*chunk.MaxSize)} {
			for _, key := range [][]byte{keyOf(1), nil, keyOf(1)[1:]} {
				if l, code := chunk.Seal(s, key, []byte("x"), b); code != api.ErrSize || len(l) != 0 {
					t.Errorf("ideal %t: of %d bytes: %d blocks, code %d", s.Ideal(), len(b), len(l), code)
				}
			}
		}
		tells(t, s, 0, false)
		sealedBy(t, s, keyOf(1), []byte("x"), text[:chunk.MaxSize])
		tells(t, s, 2115, false)
	}
}

// TestSealWithoutSealer: 13.2 and R6, ErrArg ahead of all else.
func TestSealWithoutSealer(t *testing.T) {
	for _, text := range [][]byte{nil, row(5, 1), row(1000, 1), make([]byte, chunk.MaxSize), make([]byte, chunk.MaxSize+1)} {
		for _, key := range [][]byte{keyOf(1), nil, keyOf(1)[1:], row(33, 1)} {
			if l, code := chunk.Seal(nil, key, []byte("x"), text); code != api.ErrArg || len(l) != 0 {
				t.Errorf("of %d bytes: %d blocks, code %d", len(text), len(l), code)
			}
		}
	}
}

// TestSealKeys: 13.2 and R2, a key that has not 32 bytes is the sealer's ErrSize, and nothing is sealed.
func TestSealKeys(t *testing.T) {
	for _, s := range kinds() {
		for n := range 70 {
			if n == 32 {
				continue
			}
			for _, size := range []int{0, 5, 496, 1000} {
				if l, code := chunk.Seal(s, row(n, 1), []byte("x"), row(size, 1)); code != api.ErrSize || len(l) != 0 {
					t.Errorf("ideal %t: a key of %d bytes: %d blocks, code %d", s.Ideal(), n, len(l), code)
				}
			}
		}
		tells(t, s, 0, false)
	}
}

// TestSealerOfNobody: a sealer that was not made by seal.New: some code, no panic.
func TestSealerOfNobody(t *testing.T) {
	if l, code := chunk.Seal(new(seal.Sealer), keyOf(1), []byte("x"), row(1000, 1)); code == api.OK || len(l) != 0 {
		t.Errorf("%d blocks, code %d", len(l), code)
	}
	if b, code := chunk.Open(new(seal.Sealer), keyOf(1), []byte("x"), 1000, 2, make([]byte, 512)); code == api.OK || len(b) != 0 {
		t.Errorf("%x, code %d", b, code)
	}
}
