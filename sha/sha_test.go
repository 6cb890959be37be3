package sha_test

import (
	"crypto/sha256"
	"encoding/hex"
	"strings"
	"testing"

	"deedbox/sha"
)

// text is so many bytes, of which none repeats soon.
func text(n int) []byte {
	b := make([]byte, n)
	x := uint32(n) + 1
	for i := range b {
		x = x*1664525 + 1013904223
		b[i] = byte(x >> 24)
	}
	return b
}

// guarded is bytes with others behind their length in the same memory, and a check that neither was changed.
func guarded(t *testing.T, text string) ([]byte, func()) {
	t.Helper()
	whole := []byte(text + "behind")
	return whole[:len(text)], func() {
		t.Helper()
		if string(whole) != text+"behind" {
			t.Errorf("what was handed in was changed: %q, was %q", whole, text+"behind")
		}
	}
}

// TestConstants: the sizes that the chapter names.
func TestConstants(t *testing.T) {
	if sha.Size != 32 || sha.Block != 64 {
		t.Errorf("Size %d, Block %d", sha.Size, sha.Block)
	}
}

// TestKnownSums: 2.1, the chapter's example, and others that the standard's authors gave.
func TestKnownSums(t *testing.T) {
	for _, c := range []struct {
		text, want string
	}{
		{"abc", "ba7816bf8f01cfea414140de5dae2223b00361a396177a9cb410ff61f20015ad"},
		{"", "e3b0c44298fc1c149afbf4c8996fb92427ae41e4649b934ca495991b7852b855"},
		{"abcdbcdecdefdefgefghfghighijhijkijkljklmklmnlmnomnopnopq", "248d6a61d20638b8e5c026930c3e6039a33ce45964ff2167f6ecedd419db06c1"},
		{"abcdefghbcdefghicdefghijdefghijkefghijklfghijklmghijklmnhijklmnoijklmnopjklmnopqklmnopqrlmnopqrsmnopqrstnopqrstu", "cf5b16a778af8380036ce59e7b0492370b249b11e8f07a51afac45037afee9d1"},
		{strings.Repeat("a", 1000000), "cdc76e5c9914fb9281a1c7e284d73e67f1809a48a497200e046d39ccc7112cd0"},
	} {
		s := sha.Of([]byte(c.text))
		if got := hex.EncodeToString(s[:]); got != c.want {
			t.Errorf("Of %d bytes: %s, want %s", len(c.text), got, c.want)
		}
	}
}

// TestAllLengths: 2.1, about the ends of several blocks; the bytes alike, and unlike.
func TestAllLengths(t *testing.T) {
	for n := range 5*sha.Block + 2 {
		for _, b := range [][]byte{text(n), make([]byte, n), []byte(strings.Repeat("\xff", n)), []byte(strings.Repeat("\x80", n))} {
			if got, want := sha.Of(b), sha256.Sum256(b); got != want {
				t.Errorf("Of %d bytes: %x, want %x", n, got, want)
			}
		}
	}
}

// TestNothing: 2.1, of no part, and of parts without bytes.
func TestNothing(t *testing.T) {
	want := sha256.Sum256(nil)
	for _, parts := range [][][]byte{nil, {}, {nil}, {{}}, {nil, {}, nil}} {
		if got := sha.Of(parts...); got != want {
			t.Errorf("Of(%v): %x", parts, got)
		}
	}
	if got := sha.Of(); got != want {
		t.Errorf("Of(): %x", got)
	}
}

// TestParts: 2.1, parts are as their bytes one behind the other, wherever they part.
func TestParts(t *testing.T) {
	for _, n := range []int{1, 55, 56, 63, 64, 65, 119, 120, 127, 128, 129, 200} {
		b := text(n)
		want := sha256.Sum256(b)
		for i := range n + 1 {
			for j := i; j <= n; j += 7 {
				if got := sha.Of(b[:i], b[i:j], nil, b[j:]); got != want {
					t.Fatalf("%d bytes, parted at %d and %d: %x, want %x", n, i, j, got, want)
				}
			}
		}
	}
}

// TestOrder: 2.1, the same parts in another order are another text.
func TestOrder(t *testing.T) {
	a, b := []byte("a"), []byte("b")
	if got, want := sha.Of(b, a), sha256.Sum256([]byte("ba")); got != want {
		t.Errorf("%x, want %x", got, want)
	}
}

// TestOfStays: R3, parts are neither changed nor kept, and what lies behind them does not count.
func TestOfStays(t *testing.T) {
	a, stayA := guarded(t, strings.Repeat("a", 70))
	b, stayB := guarded(t, "b")
	parts := [][]byte{a, b}
	want := sha256.Sum256([]byte(strings.Repeat("a", 70) + "b"))
	got := sha.Of(parts...)
	if got != want {
		t.Errorf("%x, want %x", got, want)
	}
	stayA()
	stayB()
	if &parts[0][0] != &a[0] || &parts[1][0] != &b[0] || len(parts[0]) != 70 || len(parts[1]) != 1 {
		t.Error("the list of parts was changed")
	}
	got[0] ^= 1
	if sha.Of(parts...) != want {
		t.Error("an answer that is written to changes the next one")
	}
}
