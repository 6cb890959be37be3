package aes_test

import (
	"bytes"
	"testing"

	"deedbox/aes"
	"deedbox/api"
)

// TestNoTables: 4.2, ErrArg, whatever the key, for it is named first.
func TestNoTables(t *testing.T) {
	for _, n := range []int{0, 1, 16, 24, 31, 32, 33, 64} {
		if c, code := aes.New(nil, text(n, 1)); code != api.ErrArg || c != nil {
			t.Errorf("a key of %d bytes: %v, code %d", n, c, code)
		}
	}
	if c, code := aes.New(nil, nil); code != api.ErrArg || c != nil {
		t.Errorf("no key: %v, code %d", c, code)
	}
}

// TestKeySizes: 4.2, ErrSize but at 32 bytes; those of AES-128 and AES-192 are none of ours.
func TestKeySizes(t *testing.T) {
	tables := aes.Build()
	for n := range 4*api.KeySize + 2 {
		c, code := aes.New(tables, text(n, 1))
		if n == api.KeySize {
			if code != api.OK || c == nil {
				t.Errorf("a key of %d bytes: %v, code %d", n, c, code)
			}
			continue
		}
		if code != api.ErrSize || c != nil {
			t.Errorf("a key of %d bytes: %v, code %d", n, c, code)
		}
	}
	for _, key := range [][]byte{nil, {}} {
		if c, code := aes.New(tables, key); code != api.ErrSize || c != nil {
			t.Errorf("the key %v: %v, code %d", key, c, code)
		}
	}
}

// TestBehindAKey: R3, what lies behind a key in its memory does not count, and is not read to fill it up.
func TestBehindAKey(t *testing.T) {
	tables := aes.Build()
	whole := text(2*api.KeySize, 6)
	for _, n := range []int{0, 16, api.KeySize - 1} {
		if c, code := aes.New(tables, whole[:n]); code != api.ErrSize || c != nil {
			t.Errorf("a key of %d bytes with more behind: %v, code %d", n, c, code)
		}
	}
	key := bytes.Clone(whole[:api.KeySize])
	b := block(text(aes.Size, 7))
	if got, want := cipherOf(t, tables, whole[:api.KeySize]).Block(b), known(t, key, b); got != want {
		t.Errorf("%x, want %x", got, want)
	}
	if !bytes.Equal(whole, text(2*api.KeySize, 6)) {
		t.Errorf("what was handed in, or what lies behind it, was changed: %x", whole)
	}
}

// TestKeyIsNotKept: R3, a key that is written over behind New changes nothing.
func TestKeyIsNotKept(t *testing.T) {
	key := text(api.KeySize, 8)
	b := block(text(aes.Size, 9))
	c := cipherOf(t, aes.Build(), key)
	want := known(t, key, b)
	clear(key)
	if got := c.Block(b); got != want {
		t.Errorf("%x, want %x", got, want)
	}
}

// TestTablesStay: R3, tables that are handed in are neither changed nor kept.
func TestTablesStay(t *testing.T) {
	tables := aes.Build()
	was := *tables
	key := text(api.KeySize, 10)
	b := block(text(aes.Size, 11))
	c := cipherOf(t, tables, key)
	want := known(t, key, b)
	if got := c.Block(b); got != want {
		t.Errorf("%x, want %x", got, want)
	}
	aes.New(tables, key[1:])
	if *tables != was {
		t.Error("the tables were changed")
	}
	*tables = aes.Tables{}
	if got := c.Block(b); got != want {
		t.Errorf("with the tables written over behind New: %x, want %x", got, want)
	}
}
