package seal_test

import (
	"bytes"
	stdaes "crypto/aes"
	"crypto/cipher"
	"testing"

	"deedbox/aes"
	"deedbox/api"
	"deedbox/gcm"
	"deedbox/seal"
	"deedbox/tape"
)

// library is what Go's own library makes of a key.
func library(t *testing.T, key []byte) cipher.AEAD {
	t.Helper()
	c, err := stdaes.NewCipher(key)
	if err != nil {
		t.Fatal(err)
	}
	g, err := cipher.NewGCM(c)
	if err != nil {
		t.Fatal(err)
	}
	return g
}

// lengths is how many bytes texts have: none, those about the ends of blocks, and a page.
func lengths() []int { return []int{0, 1, 7, 8, 15, 16, 17, 31, 32, 33, 100, api.Room, 1000} }

// wrongSizes calls with keys and nonces of all lengths of which at least one is wrong.
func wrongSizes(call func(key, nonce []byte)) {
	keys, nonces := row(100, 1), row(60, 2)
	for n := range len(keys) + 1 {
		for m := range len(nonces) + 1 {
			if n != 32 || m != 12 {
				call(keys[:n], nonces[:m])
			}
		}
	}
	call(nil, nonces[:12])
	call(keys[:32], nil)
	call(nil, nil)
}

// TestSealSizes: 12.2 and R2, ErrSize and nothing else, if the key has not 32 bytes, or the nonce not 12; nothing of it stands in the book, and no number is taken for it.
func TestSealSizes(t *testing.T) {
	for _, s := range kinds() {
		wrongSizes(func(key, nonce []byte) {
			for _, text := range [][]byte{nil, row(5, 3)} {
				if b, code := s.Seal(key, nonce, nil, text); code != api.ErrSize || len(b) != 0 {
					t.Fatalf("ideal %t: a key of %d bytes, a nonce of %d: %x, code %d", s.Ideal(), len(key), len(nonce), b, code)
				}
			}
		})
		tells(t, s, 0, false, false)
		if b := sealedBy(t, s, keyOf(1), seal.Nonce(1, 1), nil, row(3, 1)); s.Ideal() && !bytes.Equal(b, tape.Noise(1, 19)) {
			t.Errorf("behind those that were refused: %x", b)
		}
	}
}

// TestSealForReal: 12.2 and P5, what gcm seals, and what Go's own library does.
func TestSealForReal(t *testing.T) {
	s := seal.New(false)
	for i, n := range lengths() {
		for j, m := range lengths() {
			seed := uint32(100*i + j)
			key, nonce, beside, text := keyOf(seed), row(12, seed), row(m, seed+1), row(n, seed+2)
			got := sealedBy(t, s, key, nonce, beside, text)
			if want := library(t, key).Seal(nil, nonce, text, beside); !bytes.Equal(got, want) {
				t.Fatalf("%d bytes beside %d: %x; the library has %x", n, m, got, want)
			}
			g, _ := gcm.New(aes.Build(), key)
			if want, _ := g.Seal(nonce, beside, text); !bytes.Equal(got, want) {
				t.Fatalf("%d bytes beside %d: %x; gcm has %x", n, m, got, want)
			}
		}
	}
	tells(t, s, len(lengths())*len(lengths()), false, false)
}

// TestSealForRealAgain: P8, what is sealed for real is the same each time, whatever stands in the book.
func TestSealForRealAgain(t *testing.T) {
	s, key, nonce := seal.New(false), keyOf(1), seal.Nonce(2, 3)
	want := library(t, key).Seal(nil, nonce, row(50, 1), row(5, 2))
	for i := range uint32(20) {
		if got := sealedBy(t, s, key, nonce, row(5, 2), row(50, 1)); !bytes.Equal(got, want) {
			t.Fatalf("time %d: %x; want %x", i, got, want)
		}
		sealedBy(t, s, key, seal.Nonce(2, i+4), row(5, 2), row(50, 1))
	}
	tells(t, s, 40, false, false)
}

// TestSealIdeally: 12.2, noise of as many bytes as the text has and 16 more, of a number that is one more each time, though the same thing is sealed again.
func TestSealIdeally(t *testing.T) {
	s, n := seal.New(true), uint64(0)
	for range 3 {
		for seed, length := range lengths() {
			n++
			got := sealedBy(t, s, keyOf(1), seal.Nonce(1, uint32(seed)), row(seed, 1), row(length, 2))
			if want := tape.Noise(n, length+16); !bytes.Equal(got, want) {
				t.Errorf("number %d, of %d bytes: %x; want %x", n, length, got, want)
			}
		}
	}
	tells(t, s, int(n), false, false)
}

// TestNumbersGoOn: 12.2, past the first byte, and the second.
func TestNumbersGoOn(t *testing.T) {
	s := seal.New(true)
	for n := uint64(1); n <= 70000; n++ {
		b, code := s.Seal(keyOf(1), seal.Nonce(n, 0), nil, nil)
		if code != api.OK || !bytes.Equal(b, tape.Noise(n, 16)) {
			t.Fatalf("number %d: %x, code %d", n, b, code)
		}
	}
	tells(t, s, 70000, false, false)
}

// thing is what is handed in to Seal.
type thing struct{ key, nonce, beside, text []byte }

// TestReused: 12.2, two things under one key and nonce of which the text is another one, or what stands beside; each in either order.
func TestReused(t *testing.T) {
	k, n := keyOf(1), seal.Nonce(1, 2)
	a, b := []byte("a"), []byte("b")
	for i, c := range []struct {
		one, other thing
		want       bool
	}{
		{thing{k, n, a, b}, thing{k, n, a, b}, false},
		{thing{k, n, nil, nil}, thing{k, n, []byte{}, []byte{}}, false},
		{thing{k, n, nil, a}, thing{k, n, nil, b}, true},
		{thing{k, n, a, nil}, thing{k, n, b, nil}, true},
		{thing{k, n, a, b}, thing{k, n, b, a}, true},
		{thing{k, n, nil, a}, thing{k, n, a, nil}, true},
		// Bytes that change sides, and noughts behind: the same bytes in a row, or nearly, but not the same thing.
		{thing{k, n, []byte("ab"), nil}, thing{k, n, a, b}, true},
		{thing{k, n, nil, []byte("ab")}, thing{k, n, a, b}, true},
		{thing{k, n, nil, []byte{1}}, thing{k, n, nil, []byte{1, 0}}, true},
		{thing{k, n, []byte{1}, nil}, thing{k, n, []byte{1, 0}, nil}, true},
		{thing{k, n, nil, nil}, thing{k, n, nil, []byte{0}}, true},
		// Of the same length, unlike in the last bit.
		{thing{k, n, nil, row(40, 1)}, thing{k, n, nil, turned(row(40, 1), 319)}, true},
		{thing{k, n, row(40, 1), nil}, thing{k, n, turned(row(40, 1), 319), nil}, true},
		// Another key, or another nonce.
		{thing{k, n, a, b}, thing{keyOf(2), n, b, a}, false},
		{thing{k, n, a, b}, thing{k, seal.Nonce(2, 1), b, a}, false},
		{thing{k, n, a, b}, thing{turned(k, 255), n, a, a}, false},
		{thing{k, n, a, b}, thing{turned(k, 0), n, a, a}, false},
		{thing{k, n, a, b}, thing{k, turned(n, 95), a, a}, false},
		{thing{k, n, a, b}, thing{k, turned(n, 0), a, a}, false},
	} {
		for _, ideal := range []bool{true, false} {
			for _, pair := range [][2]thing{{c.one, c.other}, {c.other, c.one}} {
				s := seal.New(ideal)
				for at, x := range pair {
					sealedBy(t, s, x.key, x.nonce, x.beside, x.text)
					if want := c.want && at == 1; s.Reused() != want {
						t.Errorf("ideal %t, pair %d, behind thing %d: reused %t", ideal, i, at, s.Reused())
					}
				}
			}
		}
	}
}

// TestReusedIsForEver: 12.2, whatever is sealed in between, and behind it.
func TestReusedIsForEver(t *testing.T) {
	key, nonce := keyOf(1), seal.Nonce(1, 2)
	for _, s := range kinds() {
		sealedBy(t, s, key, nonce, nil, row(3, 1))
		for i := range uint32(30) {
			sealedBy(t, s, key, seal.Nonce(3, i), nil, row(3, i))
			sealedBy(t, s, key, nonce, nil, row(3, 1))
		}
		tells(t, s, 61, false, false)
		sealedBy(t, s, key, nonce, nil, row(3, 2))
		tells(t, s, 62, true, false)
		for i := range uint32(30) {
			sealedBy(t, s, key, nonce, nil, row(3, 1))
			sealedBy(t, s, key, seal.Nonce(4, i), nil, row(3, i))
			sealedBy(t, s, key, nonce, nil, row(3, 2))
		}
		tells(t, s, 152, true, false)
	}
}

// TestReusedOfMany: 12.2, any place of many is known.
func TestReusedOfMany(t *testing.T) {
	for _, ideal := range []bool{true, false} {
		for again := range uint32(12) {
			s := seal.New(ideal)
			for i := range uint32(12) {
				sealedBy(t, s, keyOf(i%3), seal.Nonce(1, i/3), row(2, i), row(5, i))
			}
			sealedBy(t, s, keyOf(again%3), seal.Nonce(1, again/3), row(2, again), row(5, again))
			tells(t, s, 13, false, false)
			sealedBy(t, s, keyOf(again%3), seal.Nonce(1, again/3), row(2, again), row(5, again+1))
			tells(t, s, 14, true, false)
		}
	}
}

// TestSealedCounts: 12.2, each text that was sealed, the same one again, too; what is refused, opened or derived is none.
func TestSealedCounts(t *testing.T) {
	key, nonce := keyOf(1), seal.Nonce(1, 2)
	for _, s := range kinds() {
		for i := range 50 {
			b := sealedBy(t, s, key, nonce, nil, nil)
			s.Seal(key[1:], nonce, nil, nil)
			s.Seal(key, nonce[1:], nil, nil)
			opens(t, s, key, nonce, nil, b, nil)
			refuses(t, s, key, nonce, nil, turned(b, 1), api.ErrIntegrity)
			s.Derive(key, row(2, uint32(i)))
			tells(t, s, i+1, false, false)
		}
	}
}
