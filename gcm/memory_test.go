package gcm_test

import (
	"bytes"
	"testing"

	"deedbox/aes"
	"deedbox/api"
)

// within is bytes with others behind them in their memory, and all of that memory.
func within(b []byte, seed uint32) (in, whole []byte) {
	whole = append(bytes.Clone(b), text(3*aes.Size, seed)...)
	return whole[:len(b)], whole
}

// scribble writes over an answer, and over what lies behind its length.
func scribble(b []byte) {
	b = b[:cap(b)]
	for i := range b {
		b[i] ^= 0xee
	}
}

// TestHandedInStays: R3, Seal and Open neither change what is handed in, nor read or change what lies behind it, nor hand any of it out.
func TestHandedInStays(t *testing.T) {
	key := text(api.KeySize, 1)
	g, known := keyOf(t, key), library(t, key)
	for _, m := range lengths() {
		for _, n := range lengths() {
			nonce, allNonce := within(text(api.NonceSize, 2), 3)
			beside, allBeside := within(text(m, 4), 5)
			plain, allPlain := within(text(n, 6), 7)
			sealed, allSealed := within(known.Seal(nil, nonce, plain, beside), 8)
			handed := [][]byte{allNonce, allBeside, allPlain, allSealed}
			var was [][]byte
			for _, b := range handed {
				was = append(was, bytes.Clone(b))
			}
			gotSealed := sealedBy(t, g, nonce, beside, plain)
			gotPlain, code := g.Open(nonce, beside, sealed)
			if code != api.OK || !bytes.Equal(gotPlain, plain) || !bytes.Equal(gotSealed, sealed) {
				t.Errorf("%d bytes beside %d, with more behind: %x and %x, code %d", n, m, gotSealed, gotPlain, code)
			}
			g.Open(nonce, beside, turned(sealed, 0))
			g.Seal(nonce[1:], beside, plain)
			scribble(gotSealed)
			scribble(gotPlain)
			for i, b := range handed {
				if !bytes.Equal(b, was[i]) {
					t.Errorf("%d bytes beside %d: argument %d was changed: %x, was %x", n, m, i, b, was[i])
				}
			}
		}
	}
}

// TestAnswersAreNew: R3, an answer that is written over changes no other one, and nothing that comes.
func TestAnswersAreNew(t *testing.T) {
	key, nonce, beside, plain := text(api.KeySize, 9), text(api.NonceSize, 10), text(20, 11), text(45, 12)
	g := keyOf(t, key)
	want := library(t, key).Seal(nil, nonce, plain, beside)
	for range 3 {
		one, other := sealedBy(t, g, nonce, beside, plain), sealedBy(t, g, nonce, beside, plain)
		scribble(one)
		if !bytes.Equal(other, want) {
			t.Errorf("%x, want %x", other, want)
		}
		opened, code := g.Open(nonce, beside, other)
		again, _ := g.Open(nonce, beside, other)
		scribble(opened)
		if code != api.OK || !bytes.Equal(again, plain) || !bytes.Equal(other, want) {
			t.Errorf("%x, want %x, code %d", again, plain, code)
		}
	}
}

// TestNothingHandedInIsKept: R3, what was handed in may be written over: answers stay, and nothing that comes hangs on it.
func TestNothingHandedInIsKept(t *testing.T) {
	key, nonce, beside, plain := text(api.KeySize, 13), text(api.NonceSize, 14), text(20, 15), text(45, 16)
	g, known := keyOf(t, key), library(t, key)
	want := known.Seal(nil, nonce, plain, beside)
	sealed := bytes.Clone(want)
	gotSealed := sealedBy(t, g, nonce, beside, plain)
	gotPlain, _ := g.Open(nonce, beside, sealed)
	for _, b := range [][]byte{nonce, beside, plain, sealed} {
		scribble(b)
	}
	if !bytes.Equal(gotSealed, want) || !bytes.Equal(gotPlain, text(45, 16)) {
		t.Errorf("%x and %x, want %x and %x", gotSealed, gotPlain, want, text(45, 16))
	}
	if got := sealedBy(t, g, nonce, beside, plain); !bytes.Equal(got, known.Seal(nil, nonce, plain, beside)) {
		t.Errorf("with all written over: %x", got)
	}
}

// TestOneMemoryForAll: R3, the nonce, what stands beside and the text may lie in the same memory.
func TestOneMemoryForAll(t *testing.T) {
	key := text(api.KeySize, 17)
	g, known := keyOf(t, key), library(t, key)
	b := text(60, 18)
	want := known.Seal(nil, b[:api.NonceSize], b[3:], b[7:50])
	got := sealedBy(t, g, b[:api.NonceSize], b[7:50], b[3:])
	if !bytes.Equal(got, want) || !bytes.Equal(b, text(60, 18)) {
		t.Errorf("%x, want %x", got, want)
	}
}

// TestNilAndNone: R3, lists that are nil and those without elements are the same, in and out.
func TestNilAndNone(t *testing.T) {
	key, nonce := text(api.KeySize, 19), text(api.NonceSize, 20)
	g := keyOf(t, key)
	want := library(t, key).Seal(nil, nonce, nil, nil)
	for _, beside := range [][]byte{nil, {}} {
		for _, plain := range [][]byte{nil, {}} {
			if got := sealedBy(t, g, nonce, beside, plain); !bytes.Equal(got, want) {
				t.Errorf("%v beside %v: %x, want %x", plain, beside, got, want)
			}
		}
		if got, code := g.Open(nonce, beside, want); code != api.OK || len(got) != 0 {
			t.Errorf("nothing beside %v: %x, code %d", beside, got, code)
		}
	}
}
