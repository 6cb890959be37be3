package gcm_test

import (
	"bytes"
	"crypto/aes"
	"crypto/cipher"
	"encoding/hex"
	"testing"

	our "deedbox/aes"
	"deedbox/api"
	"deedbox/gcm"
)

// text is so many bytes, of which none repeats soon; another seed has others.
func text(n int, seed uint32) []byte {
	b := make([]byte, n)
	x := seed*2654435761 + 1
	for i := range b {
		x = x*1664525 + 1013904223
		b[i] = byte(x >> 24)
	}
	return b
}

// unhex is the bytes of digits of sixteen.
func unhex(t *testing.T, s string) []byte {
	t.Helper()
	b, err := hex.DecodeString(s)
	if err != nil {
		t.Fatal(err)
	}
	return b
}

// keyOf is a key that is right, ready to seal.
func keyOf(t *testing.T, key []byte) *gcm.Gcm {
	t.Helper()
	g, code := gcm.New(our.Build(), key)
	if code != api.OK || g == nil {
		t.Fatalf("New of %x: %v, code %d", key, g, code)
	}
	return g
}

// sealedBy is a text that can be sealed, sealed.
func sealedBy(t *testing.T, g *gcm.Gcm, nonce, beside, text []byte) []byte {
	t.Helper()
	sealed, code := g.Seal(nonce, beside, text)
	if code != api.OK {
		t.Fatalf("Seal of %d bytes beside %d: code %d", len(text), len(beside), code)
	}
	return sealed
}

// library is what Go's own library makes of a key.
func library(t *testing.T, key []byte) cipher.AEAD {
	t.Helper()
	c, err := aes.NewCipher(key)
	if err != nil {
		t.Fatal(err)
	}
	a, err := cipher.NewGCM(c)
	if err != nil {
		t.Fatal(err)
	}
	return a
}

// TestNoTables: 6.1, ErrArg, whatever the key, for aes.New names it first.
func TestNoTables(t *testing.T) {
	for _, n := range []int{0, 1, 16, 24, 31, 32, 33, 64} {
		if g, code := gcm.New(nil, text(n, 1)); code != api.ErrArg || g != nil {
			t.Errorf("a key of %d bytes: %v, code %d", n, g, code)
		}
	}
	if g, code := gcm.New(nil, nil); code != api.ErrArg || g != nil {
		t.Errorf("no key: %v, code %d", g, code)
	}
}

// TestKeySizes: 6.1, ErrSize but at 32 bytes; those of AES-128 and AES-192 are none of ours.
func TestKeySizes(t *testing.T) {
	tables := our.Build()
	for n := range 4*api.KeySize + 2 {
		g, code := gcm.New(tables, text(n, 1))
		if n == api.KeySize {
			if code != api.OK || g == nil {
				t.Errorf("a key of %d bytes: %v, code %d", n, g, code)
			}
			continue
		}
		if code != api.ErrSize || g != nil {
			t.Errorf("a key of %d bytes: %v, code %d", n, g, code)
		}
	}
	for _, key := range [][]byte{nil, {}} {
		if g, code := gcm.New(tables, key); code != api.ErrSize || g != nil {
			t.Errorf("the key %v: %v, code %d", key, g, code)
		}
	}
}

// TestBehindAKey: 6.1 and R3, what lies behind a key in its memory does not fill it up, and does not count.
func TestBehindAKey(t *testing.T) {
	tables := our.Build()
	whole := text(2*api.KeySize, 6)
	for _, n := range []int{0, 16, api.KeySize - 1} {
		if g, code := gcm.New(tables, whole[:n]); code != api.ErrSize || g != nil {
			t.Errorf("a key of %d bytes with more behind: %v, code %d", n, g, code)
		}
	}
	nonce, plain := text(api.NonceSize, 7), text(40, 8)
	got := sealedBy(t, keyOf(t, whole[:api.KeySize]), nonce, nil, plain)
	if want := library(t, text(2*api.KeySize, 6)[:api.KeySize]).Seal(nil, nonce, plain, nil); !bytes.Equal(got, want) {
		t.Errorf("%x, want %x", got, want)
	}
	if !bytes.Equal(whole, text(2*api.KeySize, 6)) {
		t.Errorf("what was handed in, or what lies behind it, was changed: %x", whole)
	}
}

// TestEachBitOfAKey: 6.1, each bit counts, for the text and for the tag; what is sealed under one key is not opened under another.
func TestEachBitOfAKey(t *testing.T) {
	key, nonce, plain := text(api.KeySize, 9), text(api.NonceSize, 10), text(32, 11)
	was := sealedBy(t, keyOf(t, key), nonce, nil, plain)
	for bit := range 8 * len(key) {
		key[bit/8] ^= 128 >> (bit % 8)
		g := keyOf(t, key)
		got := sealedBy(t, g, nonce, nil, plain)
		if want := library(t, key).Seal(nil, nonce, plain, nil); !bytes.Equal(got, want) {
			t.Errorf("bit %d of the key: %x, want %x", bit, got, want)
		}
		if bytes.Equal(got[:len(plain)], was[:len(plain)]) || bytes.Equal(got[len(plain):], was[len(plain):]) {
			t.Errorf("bit %d of the key does not count: %x, was %x", bit, got, was)
		}
		if opened, code := g.Open(nonce, nil, was); code != api.ErrIntegrity || len(opened) != 0 {
			t.Errorf("bit %d of the key is not told: %x, code %d", bit, opened, code)
		}
		key[bit/8] ^= 128 >> (bit % 8)
	}
}

// TestNothingOfNewIsKept: 6.1 and R3, neither the key nor the tables are changed, or kept: they may be written over behind New.
func TestNothingOfNewIsKept(t *testing.T) {
	key, nonce, beside, plain := text(api.KeySize, 12), text(api.NonceSize, 13), text(7, 14), text(50, 15)
	tables := our.Build()
	was := *tables
	want := library(t, key).Seal(nil, nonce, plain, beside)
	g, code := gcm.New(tables, key)
	if code != api.OK {
		t.Fatalf("code %d", code)
	}
	if *tables != was || !bytes.Equal(key, text(api.KeySize, 12)) {
		t.Error("what was handed in was changed")
	}
	clear(key)
	*tables = our.Tables{}
	if got := sealedBy(t, g, nonce, beside, plain); !bytes.Equal(got, want) {
		t.Errorf("with the key and the tables written over: %x, want %x", got, want)
	}
	if got, code := g.Open(nonce, beside, want); code != api.OK || !bytes.Equal(got, plain) {
		t.Errorf("with the key and the tables written over: %x, code %d", got, code)
	}
}

// TestKeysBesideEachOther: 6.1 and P8, keys of the same tables know nothing of each other.
func TestKeysBesideEachOther(t *testing.T) {
	tables := our.Build()
	var all []*gcm.Gcm
	for seed := range uint32(20) {
		g, code := gcm.New(tables, text(api.KeySize, seed))
		if code != api.OK {
			t.Fatalf("code %d", code)
		}
		all = append(all, g)
	}
	nonce, plain := text(api.NonceSize, 16), text(33, 17)
	for range 3 {
		for seed, g := range all {
			got := sealedBy(t, g, nonce, plain, plain)
			want := library(t, text(api.KeySize, uint32(seed))).Seal(nil, nonce, plain, plain)
			if !bytes.Equal(got, want) {
				t.Errorf("key %d: %x, want %x", seed, got, want)
			}
		}
	}
}
