package mac_test

import (
	"bytes"
	"crypto/hmac"
	"crypto/sha256"
	"encoding/hex"
	"strings"
	"testing"

	"deedbox/mac"
	"deedbox/sha"
)

// text is so many bytes, of which none repeats soon.
func text(n int) []byte {
	b := make([]byte, n)
	x := uint32(n) + 1
	for i := range b {
		x = x*1664525 + 1013904223
		b[i] = byte(x >> 24)
	}
	return b
}

// unhex is the bytes of digits of sixteen.
func unhex(t *testing.T, s string) []byte {
	t.Helper()
	b, err := hex.DecodeString(s)
	if err != nil {
		t.Fatal(err)
	}
	return b
}

// guarded is bytes with others behind their length in the same memory, and a check that neither was changed.
func guarded(t *testing.T, text string) ([]byte, func()) {
	t.Helper()
	whole := []byte(text + "behind")
	return whole[:len(text)], func() {
		t.Helper()
		if string(whole) != text+"behind" {
			t.Errorf("what was handed in was changed: %q, was %q", whole, text+"behind")
		}
	}
}

// guardedList is a list of parts with one more behind its length, and a check that neither was changed.
func guardedList(t *testing.T, parts ...[]byte) ([][]byte, func()) {
	t.Helper()
	behind := []byte("behind")
	whole := append(append([][]byte(nil), parts...), behind)
	return whole[:len(parts)], func() {
		t.Helper()
		for i, want := range append(append([][]byte(nil), parts...), behind) {
			if len(whole[i]) != len(want) || len(want) > 0 && &whole[i][0] != &want[0] {
				t.Errorf("place %d of the list that was handed in was changed: %q, was %q", i, whole[i], want)
			}
		}
		if string(behind) != "behind" {
			t.Errorf("what lies behind the list was changed: %q", behind)
		}
	}
}

// known is what the library answers for Of.
func known(key []byte, parts ...[]byte) [sha.Size]byte {
	h := hmac.New(sha256.New, key)
	for _, p := range parts {
		h.Write(p)
	}
	return [sha.Size]byte(h.Sum(nil))
}

// TestExample: the chapter's example, and 3.1.
func TestExample(t *testing.T) {
	got := mac.Of([]byte("Jefe"), []byte("what do ya want for nothing?"))
	want := unhex(t, "5bdcc146bf60754e6a042426089575c75a003f089d2739839dec58b964ec3843")
	if !bytes.Equal(got[:], want) {
		t.Errorf("%x, want %x", got, want)
	}
}

// TestKnownSums: 3.1, what RFC 4231 gives: keys shorter and longer than a block.
func TestKnownSums(t *testing.T) {
	for _, c := range []struct {
		key, text, want string
	}{
		{strings.Repeat("\x0b", 20), "Hi There", "b0344c61d8db38535ca8afceaf0bf12b881dc200c9833da726e9376c2e32cff7"},
		{strings.Repeat("\xaa", 20), strings.Repeat("\xdd", 50), "773ea91e36800e46854db8ebd09181a72959098b3ef8c122d9635514ced565fe"},
		{"\x01\x02\x03\x04\x05\x06\x07\x08\x09\x0a\x0b\x0c\x0d\x0e\x0f\x10\x11\x12\x13\x14\x15\x16\x17\x18\x19", strings.Repeat("\xcd", 50), "82558a389a443c0ea4cc819899f2083a85f0faa3e578f8077a2e3ff46729665b"},
		{strings.Repeat("\xaa", 131), "Test Using Larger Than Block-Size Key - Hash Key First", "60e431591ee0b67f0d8a26aacbf5b77f8e0bc6213728c5140546040f0ee37f54"},
		{strings.Repeat("\xaa", 131), "This is a test using a larger than block-size key and a larger than block-size data. The key needs to be hashed before being used by the HMAC algorithm.", "9b09ffa71b942fcb27635fbcd5b0e944bfdc63644f0713938a7f51535c3a35e2"},
	} {
		got := mac.Of([]byte(c.key), []byte(c.text))
		if hex.EncodeToString(got[:]) != c.want {
			t.Errorf("under %d bytes of %q: %x, want %s", len(c.key), c.text, got, c.want)
		}
	}
}

// TestAllKeyLengths: 3.1, keys shorter than, as long as and longer than a block; their bytes alike, and unlike.
func TestAllKeyLengths(t *testing.T) {
	for n := range 4*sha.Block + 2 {
		for _, key := range [][]byte{text(n), make([]byte, n), bytes.Repeat([]byte{0x36}, n), bytes.Repeat([]byte{0xff}, n)} {
			for _, b := range [][]byte{nil, []byte("a"), text(sha.Block), text(200)} {
				if got, want := mac.Of(key, b), known(key, b); got != want {
					t.Fatalf("under %d bytes of %d: %x, want %x", n, len(b), got, want)
				}
			}
		}
	}
}

// TestAllTextLengths: 3.1, about the ends of several blocks.
func TestAllTextLengths(t *testing.T) {
	for _, key := range [][]byte{nil, []byte("key"), text(sha.Block - 1), text(sha.Block), text(sha.Block + 1), text(1000)} {
		for n := range 4*sha.Block + 2 {
			if got, want := mac.Of(key, text(n)), known(key, text(n)); got != want {
				t.Fatalf("under %d bytes of %d: %x, want %x", len(key), n, got, want)
			}
		}
	}
}

// TestNoParts: 3.1, of no part, and of parts without bytes.
func TestNoParts(t *testing.T) {
	for _, key := range [][]byte{nil, {}, []byte("key"), text(64), text(65)} {
		want := known(key)
		if got := mac.Of(key); got != want {
			t.Errorf("of none, under %d bytes: %x, want %x", len(key), got, want)
		}
		for _, parts := range [][][]byte{nil, {}, {nil}, {{}}, {nil, {}, nil}} {
			if got := mac.Of(key, parts...); got != want {
				t.Errorf("of %v, under %d bytes: %x, want %x", parts, len(key), got, want)
			}
		}
	}
}

// TestParts: 3.1, parts are as their bytes one behind the other, wherever they part.
func TestParts(t *testing.T) {
	key := []byte("key")
	for _, n := range []int{1, 2, 55, 56, 63, 64, 65, 130} {
		b := text(n)
		want := known(key, b)
		for i := range n + 1 {
			for j := i; j <= n; j += 5 {
				if got := mac.Of(key, b[:i], nil, b[i:j], b[j:]); got != want {
					t.Fatalf("%d bytes, parted at %d and %d: %x, want %x", n, i, j, got, want)
				}
			}
		}
	}
	if got, want := mac.Of(key, []byte("b"), []byte("a"), []byte("b")), known(key, []byte("bab")); got != want {
		t.Errorf("the order of parts: %x, want %x", got, want)
	}
}

// TestManyParts: 3.1, however many there are.
func TestManyParts(t *testing.T) {
	b := text(1000)
	var parts [][]byte
	for i := range b {
		parts = append(parts, b[i:i+1])
	}
	if got, want := mac.Of([]byte("key"), parts...), known([]byte("key"), b); got != want {
		t.Errorf("%x, want %x", got, want)
	}
}

// TestLongerKeyIsItsSum: 3.4; a key of just one block is not.
func TestLongerKeyIsItsSum(t *testing.T) {
	b := []byte("text")
	for n := sha.Block + 1; n < 4*sha.Block; n++ {
		key := text(n)
		sum := sha.Of(key)
		if mac.Of(key, b) != mac.Of(sum[:], b) {
			t.Errorf("a key of %d bytes is not as good as its sum", n)
		}
		if !bytes.Equal(mac.Expand(key, 40, b), mac.Expand(sum[:], 40, b)) {
			t.Errorf("Expand: a key of %d bytes is not as good as its sum", n)
		}
		if !bytes.Equal(mac.Extract(key, b), mac.Extract(sum[:], b)) {
			t.Errorf("Extract: a salt of %d bytes is not as good as its sum", n)
		}
	}
	for _, n := range []int{1, sha.Size, sha.Block - 1, sha.Block} {
		key := text(n)
		sum := sha.Of(key)
		if mac.Of(key, b) == mac.Of(sum[:], b) {
			t.Errorf("a key of %d bytes is taken as its sum", n)
		}
	}
}

// TestNoughtsBehindAKey: 3.4, up to a block they are of no matter; past it, or ahead of the key, they are.
func TestNoughtsBehindAKey(t *testing.T) {
	b := []byte("text")
	for n := range sha.Block + 1 {
		key := text(n)
		want := mac.Of(key, b)
		for more := range sha.Block - n + 1 {
			if got := mac.Of(append(text(n), make([]byte, more)...), b); got != want {
				t.Errorf("%d noughts behind a key of %d bytes: %x, want %x", more, n, got, want)
			}
		}
		if mac.Of(append(key, make([]byte, sha.Block+1-n)...), b) == want {
			t.Errorf("noughts past a block behind a key of %d bytes are of no matter", n)
		}
	}
	if mac.Of([]byte("\x00key"), b) == mac.Of([]byte("key"), b) {
		t.Error("a nought ahead of a key is of no matter")
	}
}

// TestOfStays: R3, neither the key nor parts are changed or kept, and what lies behind them does not count.
func TestOfStays(t *testing.T) {
	for _, n := range []int{3, sha.Block - 2, sha.Block, sha.Block + 1, 150} {
		key, stayKey := guarded(t, string(text(n)))
		a, stayA := guarded(t, strings.Repeat("a", 70))
		b, stayB := guarded(t, "b")
		parts, stayParts := guardedList(t, a, b)
		want := known(text(n), []byte(strings.Repeat("a", 70)+"b"))
		got := mac.Of(key, parts...)
		if got != want {
			t.Errorf("under %d bytes: %x, want %x", n, got, want)
		}
		stayKey()
		stayA()
		stayB()
		stayParts()
		clear(got[:])
		if again := mac.Of(key, parts...); again != want {
			t.Errorf("under %d bytes, asked again: %x, want %x", n, again, want)
		}
	}
}
