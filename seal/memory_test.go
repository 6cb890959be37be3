package seal_test

import (
	"bytes"
	"testing"

	"deedbox/api"
	"deedbox/octet"
	"deedbox/seal"
	"deedbox/tape"
)

// scribble writes over bytes, and over what lies behind their length.
func scribble(b []byte) {
	b = b[:cap(b)]
	for i := range b {
		b[i] += 13
	}
}

// within is bytes with others behind them in their memory, and all of that memory.
func within(b []byte, seed uint32) (in, whole []byte) {
	whole = append(bytes.Clone(b), row(40, seed)...)
	return whole[:len(b)], whole
}

// TestHandedInStays: R3, what is handed in is not changed, and what lies behind it is neither read nor changed.
func TestHandedInStays(t *testing.T) {
	for _, s := range kinds() {
		for i, n := range lengths() {
			var handed, was [][]byte
			hand := func(b []byte) []byte {
				in, whole := within(b, uint32(len(handed)))
				handed, was = append(handed, whole), append(was, bytes.Clone(whole))
				return in
			}
			key, nonce := keyOf(1), seal.Nonce(1, uint32(i))
			b := sealedBy(t, s, hand(key), hand(nonce), hand(row(n, 1)), hand(row(n, 2)))
			scribble(sealedBy(t, s, hand(key), hand(nonce), hand(row(n, 1)), hand(row(n, 2))))
			opens(t, s, hand(key), hand(nonce), hand(row(n, 1)), hand(b), row(n, 2))
			text, _ := s.Open(hand(key), hand(nonce), hand(row(n, 1)), hand(b))
			scribble(text)
			refuses(t, s, hand(key), hand(nonce), hand(row(n, 3)), hand(turned(b, 0)), api.ErrIntegrity)
			s.Seal(hand(key[1:]), hand(nonce), hand(row(n, 1)), hand(row(n, 2)))
			s.Open(hand(key), hand(nonce[1:]), hand(row(n, 1)), hand(b))
			one := s.Derive(hand(key), hand(row(n, 1)), hand(row(2, 2)))
			if other := s.Derive(key, row(n, 1), row(2, 2)); !bytes.Equal(one, other) {
				t.Errorf("ideal %t: what lies behind counts: %x; want %x", s.Ideal(), one, other)
			}
			scribble(one)
			for j := range handed {
				if !bytes.Equal(handed[j], was[j]) {
					t.Errorf("ideal %t, of %d bytes: argument %d was changed: %x; was %x", s.Ideal(), n, j, handed[j], was[j])
				}
			}
		}
		tells(t, s, 2*len(lengths()), false, false)
	}
}

// TestPartsStay: R3, the list of what a key is for stays, and what lies behind its length is not read.
func TestPartsStay(t *testing.T) {
	for _, s := range kinds() {
		a, b, c := row(3, 1), row(4, 2), row(5, 3)
		all := [][]byte{a, b, c}
		short := s.Derive(keyOf(1), all[:2]...)
		if want := s.Derive(keyOf(1), row(3, 1), row(4, 2)); !bytes.Equal(short, want) {
			t.Errorf("ideal %t: %x; want %x", s.Ideal(), short, want)
		}
		for i, p := range [][]byte{a, b, c} {
			if &all[i][0] != &p[0] || !bytes.Equal(p, row(3+i, uint32(1+i))) {
				t.Errorf("ideal %t: part %d was changed", s.Ideal(), i)
			}
		}
	}
}

// TestNothingHandedInIsKept: R3, what was handed in may be written over: the book stays.
func TestNothingHandedInIsKept(t *testing.T) {
	for _, s := range kinds() {
		key, nonce, beside, text := keyOf(1), seal.Nonce(1, 2), row(20, 1), row(40, 2)
		b := sealedBy(t, s, key, nonce, beside, text)
		from, what := row(9, 3), row(9, 4)
		k := s.Derive(from, what)
		for _, x := range [][]byte{key, nonce, beside, text, from, what} {
			scribble(x)
		}
		opens(t, s, keyOf(1), seal.Nonce(1, 2), row(20, 1), b, row(40, 2))
		refuses(t, s, key, nonce, beside, b, api.ErrIntegrity)
		sealedBy(t, s, key, nonce, nil, nil)
		tells(t, s, 2, false, false)
		sealedBy(t, s, keyOf(1), seal.Nonce(1, 2), row(20, 1), row(40, 2))
		tells(t, s, 3, false, false)
		sealedBy(t, s, keyOf(1), seal.Nonce(1, 2), row(20, 1), text)
		tells(t, s, 4, true, false)
		if got := s.Derive(row(9, 3), row(9, 4)); !bytes.Equal(got, k) {
			t.Errorf("ideal %t: %x; was %x", s.Ideal(), got, k)
		}
		if got := s.Derive(from, what); bytes.Equal(got, k) {
			t.Errorf("ideal %t: what was written over counts", s.Ideal())
		}
	}
}

// TestAnswersAreNew: R3, answers that are written over change no other one, and nothing in the book.
func TestAnswersAreNew(t *testing.T) {
	key, nonce := keyOf(1), seal.Nonce(1, 2)
	for _, s := range kinds() {
		b := sealedBy(t, s, key, nonce, nil, row(40, 1))
		was := bytes.Clone(b)
		scribble(b)
		refuses(t, s, key, nonce, nil, b, api.ErrIntegrity)
		opens(t, s, key, nonce, nil, was, row(40, 1))
		one, _ := s.Open(key, nonce, nil, was)
		other, _ := s.Open(key, nonce, nil, was)
		scribble(one)
		if !bytes.Equal(other, row(40, 1)) {
			t.Errorf("ideal %t: %x", s.Ideal(), other)
		}
		opens(t, s, key, nonce, nil, was, row(40, 1))
		k, same := s.Derive(key), s.Derive(key)
		scribble(k)
		if !bytes.Equal(s.Derive(key), same) || bytes.Equal(k, same) {
			t.Errorf("ideal %t: %x; was %x", s.Ideal(), s.Derive(key), same)
		}
		tells(t, s, 1, false, false)
	}
	scribble(seal.Nonce(7, 8))
	if got := seal.Nonce(7, 8); !bytes.Equal(got, octet.Join(octet.Put(7, 8), octet.Put(8, 4))) {
		t.Errorf("%x", got)
	}
}

// TestOneMemoryForAll: R3, all that is handed in may lie in the same memory.
func TestOneMemoryForAll(t *testing.T) {
	for _, s := range kinds() {
		b := row(80, 1)
		sealed := sealedBy(t, s, b[:32], b[10:22], b[5:50], b[1:])
		if !s.Ideal() && !bytes.Equal(sealed, library(t, b[:32]).Seal(nil, b[10:22], b[1:], b[5:50])) {
			t.Errorf("%x", sealed)
		}
		opens(t, s, b[:32], b[10:22], b[5:50], sealed, b[1:])
		k := s.Derive(b, b[3:], b[:9])
		if !bytes.Equal(k, s.Derive(row(80, 1), row(80, 1)[3:], row(80, 1)[:9])) || !bytes.Equal(b, row(80, 1)) {
			t.Errorf("ideal %t: %x", s.Ideal(), k)
		}
	}
}

// TestNilAndNone: R3, lists that are nil and those without elements are the same, in and out.
func TestNilAndNone(t *testing.T) {
	key, nonce := keyOf(1), seal.Nonce(1, 2)
	none := [][]byte{nil, {}}
	for _, s := range kinds() {
		for _, beside := range none {
			for _, text := range none {
				b := sealedBy(t, s, key, nonce, beside, text)
				for _, other := range none {
					opens(t, s, key, nonce, other, b, nil)
				}
				refuses(t, s, key, nonce, beside, text, api.ErrIntegrity)
			}
		}
		tells(t, s, 4, false, false)
		k := s.Derive(nil, nil)
		if s.Ideal() && !bytes.Equal(k, tape.Noise(5, 32)) {
			t.Errorf("%x", k)
		}
		for _, from := range none {
			for _, what := range none {
				if got := s.Derive(from, what); !bytes.Equal(got, k) {
					t.Errorf("ideal %t: %x; want %x", s.Ideal(), got, k)
				}
			}
			if got := s.Derive(from); bytes.Equal(got, k) || !bytes.Equal(got, s.Derive(nil, [][]byte{}...)) {
				t.Errorf("ideal %t: of no parts %x; of one without bytes %x", s.Ideal(), got, k)
			}
		}
	}
}
