package seal_test

import (
	"bytes"
	"crypto/hkdf"
	"crypto/sha256"
	"math"
	"testing"

	"deedbox/api"
	"deedbox/mac"
	"deedbox/octet"
	"deedbox/seal"
	"deedbox/tape"
)

// purpose is what is handed in to Derive.
type purpose struct {
	from []byte
	what [][]byte
}

// purposes is ends no two of which are the same, though many have the same bytes in a row.
func purposes() []purpose {
	a, b, ab := []byte("a"), []byte("b"), []byte("ab")
	l := []purpose{
		{nil, nil}, {nil, [][]byte{nil}}, {nil, [][]byte{nil, nil}}, {nil, [][]byte{{0}}}, {nil, [][]byte{{0, 0, 0, 0}}},
		{a, nil}, {a, [][]byte{nil}}, {nil, [][]byte{a}}, {ab, nil}, {a, [][]byte{b}}, {b, [][]byte{a}}, {nil, [][]byte{ab}}, {nil, [][]byte{a, b}}, {nil, [][]byte{b, a}},
		{a, [][]byte{a, b}}, {a, [][]byte{ab}}, {a, [][]byte{ab, nil}}, {a, [][]byte{nil, ab}}, {ab, [][]byte{a}}, {ab, [][]byte{b}},
		{[]byte{0}, nil}, {[]byte{0, 0, 0, 0}, nil}, {[]byte{0, 0, 0, 1, 'a'}, nil},
	}
	for bit := range 256 {
		l = append(l, purpose{turned(keyOf(1), bit), [][]byte{[]byte("page")}})
	}
	for n := range 70 {
		l = append(l, purpose{row(n+2, 3), [][]byte{[]byte("log")}}, purpose{keyOf(1), [][]byte{row(n+2, 3)}})
	}
	return l
}

// TestDeriveForReal: 12.4 and P5, mac.Derive of from without a salt, for octet.Pack of what, and what Go's own library makes of these.
func TestDeriveForReal(t *testing.T) {
	s := seal.New(false)
	for range 2 {
		for _, p := range purposes() {
			got := s.Derive(p.from, p.what...)
			if want := mac.Derive(p.from, nil, 32, octet.Pack(p.what...)); !bytes.Equal(got, want) {
				t.Errorf("of %x for %x: %x; want %x", p.from, p.what, got, want)
			}
			want, err := hkdf.Key(sha256.New, p.from, nil, string(octet.Pack(p.what...)), 32)
			if err != nil || !bytes.Equal(got, want) {
				t.Errorf("of %x for %x: %x; the library has %x, %v", p.from, p.what, got, want, err)
			}
		}
	}
	tells(t, s, 0, false, false)
}

// TestDeriveIdeally: 12.4, noise of 32 bytes, of a number that is one more each time; the same as ever for the same end, in any order.
func TestDeriveIdeally(t *testing.T) {
	s, l := seal.New(true), purposes()
	for i, p := range l {
		if got, want := s.Derive(p.from, p.what...), tape.Noise(uint64(i+1), 32); !bytes.Equal(got, want) {
			t.Errorf("of %x for %x: %x; want %x", p.from, p.what, got, want)
		}
	}
	for i := len(l) - 1; i >= 0; i-- {
		for range 2 {
			if got, want := s.Derive(l[i].from, l[i].what...), tape.Noise(uint64(i+1), 32); !bytes.Equal(got, want) {
				t.Errorf("of %x for %x once more: %x; want %x", l[i].from, l[i].what, got, want)
			}
		}
	}
	tells(t, s, 0, false, false)
	// No number was taken for those that were known.
	if got, want := sealedBy(t, s, keyOf(1), seal.Nonce(1, 1), nil, nil), tape.Noise(uint64(len(l)+1), 16); !bytes.Equal(got, want) {
		t.Errorf("%x; want %x", got, want)
	}
}

// TestDeriveUnlike: 12.6, unlike ends have unlike keys, of either kind.
func TestDeriveUnlike(t *testing.T) {
	for _, s := range kinds() {
		whose := map[string]int{}
		for i, p := range purposes() {
			k := string(s.Derive(p.from, p.what...))
			if j, ok := whose[k]; ok || len(k) != 32 {
				t.Errorf("ideal %t: %d and %d have the same key, %x", s.Ideal(), i, j, k)
			}
			whose[k] = i
		}
	}
}

// TestOneNumberForAll: 12.2 and 12.4, what is sealed and what is derived is counted by the same number.
func TestOneNumberForAll(t *testing.T) {
	s, n := seal.New(true), uint64(0)
	first := s.Derive(keyOf(1), []byte("first"))
	n++
	for i := range uint32(300) {
		n++
		if got := sealedBy(t, s, keyOf(1), seal.Nonce(1, i), nil, row(4, i)); !bytes.Equal(got, tape.Noise(n, 20)) {
			t.Errorf("sealed at %d: %x", n, got)
		}
		n++
		if got := s.Derive(keyOf(1), row(4, i), octet.Put(uint64(i), 4)); !bytes.Equal(got, tape.Noise(n, 32)) {
			t.Errorf("derived at %d: %x", n, got)
		}
		if got := s.Derive(keyOf(1), []byte("first")); !bytes.Equal(got, first) || !bytes.Equal(got, tape.Noise(1, 32)) {
			t.Errorf("the first one at %d: %x; was %x", n, got, first)
		}
	}
}

// TestDerivedKeysSeal: 12.4 and 12.6, a key that was derived has the size of one; what is sealed under it opens under it, derived again.
func TestDerivedKeysSeal(t *testing.T) {
	for _, s := range kinds() {
		page, log := s.Derive(keyOf(1), []byte("page")), s.Derive(keyOf(1), []byte("log"))
		b := sealedBy(t, s, page, seal.Nonce(1, 2), nil, row(20, 1))
		opens(t, s, s.Derive(keyOf(1), []byte("page")), seal.Nonce(1, 2), nil, b, row(20, 1))
		refuses(t, s, log, seal.Nonce(1, 2), nil, b, api.ErrIntegrity)
		refuses(t, s, keyOf(1), seal.Nonce(1, 2), nil, b, api.ErrIntegrity)
	}
}

// TestNonce: 12.5, the numbers' bytes, the highest first.
func TestNonce(t *testing.T) {
	for _, c := range []struct {
		high uint64
		low  uint32
		want []byte
	}{
		{0, 0, []byte{0, 0, 0, 0, 0, 0, 0, 0, 0, 0, 0, 0}},
		{1, 2, []byte{0, 0, 0, 0, 0, 0, 0, 1, 0, 0, 0, 2}},
		{0x0102030405060708, 0x090a0b0c, []byte{1, 2, 3, 4, 5, 6, 7, 8, 9, 10, 11, 12}},
		{256, 256, []byte{0, 0, 0, 0, 0, 0, 1, 0, 0, 0, 1, 0}},
		{0, math.MaxUint32, []byte{0, 0, 0, 0, 0, 0, 0, 0, 255, 255, 255, 255}},
		{math.MaxUint64, 0, []byte{255, 255, 255, 255, 255, 255, 255, 255, 0, 0, 0, 0}},
		{math.MaxUint64, math.MaxUint32, bytes.Repeat([]byte{255}, 12)},
		{math.MaxUint32 + 1, 0, []byte{0, 0, 0, 1, 0, 0, 0, 0, 0, 0, 0, 0}},
		{1 << 63, 1 << 31, []byte{128, 0, 0, 0, 0, 0, 0, 0, 128, 0, 0, 0}},
		{api.MaxNum, 4096, []byte{0, 0, 1, 0, 0, 0, 0, 0, 0, 0, 16, 0}},
	} {
		if got := seal.Nonce(c.high, c.low); !bytes.Equal(got, c.want) {
			t.Errorf("Nonce(%#x, %#x): %x; want %x", c.high, c.low, got, c.want)
		}
	}
}

// TestNonceBits: 12.5, each bit stands in a place of its own.
func TestNonceBits(t *testing.T) {
	for bit := range 96 {
		high, low := uint64(0), uint32(0)
		if bit < 64 {
			high = 1 << (63 - bit)
		} else {
			low = 1 << (95 - bit)
		}
		if got, want := seal.Nonce(high, low), turned(make([]byte, 12), bit); !bytes.Equal(got, want) {
			t.Errorf("Nonce(%#x, %#x): %x; want %x", high, low, got, want)
		}
	}
}
