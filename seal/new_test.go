package seal_test

import (
	"bytes"
	"testing"

	"deedbox/api"
	"deedbox/seal"
)

// row is so many bytes, of its own for each seed.
func row(n int, seed uint32) []byte {
	b := make([]byte, n)
	x := seed*2654435761 + 1
	for i := range b {
		x = x*1664525 + 1013904223
		b[i] = byte(x >> 24)
	}
	return b
}

func keyOf(seed uint32) []byte { return row(32, seed+5000) }

// kinds is a sealer of each kind, the ideal one first.
func kinds() []*seal.Sealer { return []*seal.Sealer{seal.New(true), seal.New(false)} }

// sealedBy is a text that can be sealed, sealed.
func sealedBy(t *testing.T, s *seal.Sealer, key, nonce, beside, text []byte) []byte {
	t.Helper()
	b, code := s.Seal(key, nonce, beside, text)
	if code != api.OK || len(b) != len(text)+16 {
		t.Fatalf("ideal %t: Seal of %x beside %x: %x, code %d", s.Ideal(), text, beside, b, code)
	}
	return b
}

// opens holds what is opened against the text that it should be.
func opens(t *testing.T, s *seal.Sealer, key, nonce, beside, sealed, want []byte) {
	t.Helper()
	if got, code := s.Open(key, nonce, beside, sealed); code != api.OK || !bytes.Equal(got, want) {
		t.Errorf("ideal %t: Open of %x: %x, code %d; want %x", s.Ideal(), sealed, got, code, want)
	}
}

// refuses asks for what should not open: a code, and nothing else.
func refuses(t *testing.T, s *seal.Sealer, key, nonce, beside, sealed []byte, want api.Code) {
	t.Helper()
	if got, code := s.Open(key, nonce, beside, sealed); code != want || len(got) != 0 {
		t.Errorf("ideal %t: Open of %x beside %x: %x, code %d; want code %d", s.Ideal(), sealed, beside, got, code, want)
	}
}

// tells holds all that a sealer tells of its book against what is wanted.
func tells(t *testing.T, s *seal.Sealer, sealed int, reused, forged bool) {
	t.Helper()
	if s.Sealed() != sealed || s.Reused() != reused || s.Forged() != forged {
		t.Errorf("ideal %t: %d sealed, reused %t, forged %t; want %d, %t, %t", s.Ideal(), s.Sealed(), s.Reused(), s.Forged(), sealed, reused, forged)
	}
}

// turned is bytes with one bit turned.
func turned(b []byte, bit int) []byte {
	out := bytes.Clone(b)
	out[bit/8] ^= 128 >> (bit % 8)
	return out
}

// TestExample: the chapter's example.
func TestExample(t *testing.T) {
	b, code := seal.New(true).Seal(make([]byte, 32), seal.Nonce(0, 0), nil, []byte("abc"))
	if code != api.OK || len(b) != 19 || !bytes.Equal(b[:8], []byte{0, 0, 0, 0, 0, 0, 0, 1}) {
		t.Errorf("%x, code %d", b, code)
	}
}

// TestNew: 12.1, of the kind that it is said to be, with an empty book: nothing opens ideally.
func TestNew(t *testing.T) {
	for _, ideal := range []bool{true, false} {
		s := seal.New(ideal)
		if s == nil || s.Ideal() != ideal {
			t.Fatalf("New(%t): %v", ideal, s)
		}
		tells(t, s, 0, false, false)
		for _, n := range []int{0, 1, 15, 16, 17, 40} {
			refuses(t, s, keyOf(1), seal.Nonce(1, 1), nil, row(n, 1), api.ErrIntegrity)
			refuses(t, s, keyOf(1), seal.Nonce(1, 1), nil, make([]byte, n), api.ErrIntegrity)
		}
		tells(t, s, 0, false, false)
	}
}

// TestKindStays: 12.1, whatever is asked of a sealer, it is of its kind.
func TestKindStays(t *testing.T) {
	for i, s := range kinds() {
		sealedBy(t, s, keyOf(1), seal.Nonce(1, 1), nil, row(3, 1))
		sealedBy(t, s, keyOf(1), seal.Nonce(1, 1), nil, row(3, 2))
		s.Seal(nil, nil, nil, nil)
		s.Open(nil, nil, nil, nil)
		s.Derive(keyOf(1), []byte("page"))
		if s.Ideal() != (i == 0) {
			t.Errorf("sealer %d is ideal: %t", i, s.Ideal())
		}
	}
}

// TestSealersAreApart: 12.1 and P8, each sealer has a book and a number of its own.
func TestSealersAreApart(t *testing.T) {
	key, nonce := keyOf(1), seal.Nonce(1, 1)
	for _, ideal := range []bool{true, false} {
		busy, idle := seal.New(ideal), seal.New(ideal)
		sealedBy(t, busy, key, nonce, nil, row(3, 1))
		sealedBy(t, busy, key, nonce, nil, row(3, 2))
		busy.Derive(key)
		tells(t, busy, 2, true, false)
		tells(t, idle, 0, false, false)
		fresh := sealedBy(t, seal.New(ideal), key, nonce, nil, row(3, 3))
		if got := sealedBy(t, idle, key, nonce, nil, row(3, 3)); !bytes.Equal(got, fresh) {
			t.Errorf("ideal %t: %x; want %x", ideal, got, fresh)
		}
		tells(t, idle, 1, false, false)
	}
}

// TestNotMadeByNew: nothing is promised of it, but it must not stop the program.
func TestNotMadeByNew(t *testing.T) {
	s := &seal.Sealer{}
	s.Seal(keyOf(1), seal.Nonce(1, 1), nil, row(3, 1))
	s.Open(keyOf(1), seal.Nonce(1, 1), nil, row(30, 1))
	s.Derive(keyOf(1), row(3, 1))
	tells(t, s, 0, false, false)
}
