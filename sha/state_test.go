package sha_test

import (
	"crypto/sha256"
	"strings"
	"testing"

	"deedbox/sha"
)

// TestNew: 2.2, nothing came.
func TestNew(t *testing.T) {
	s := sha.New()
	if got, want := s.Sum(), sha256.Sum256(nil); got != want {
		t.Errorf("%x, want %x", got, want)
	}
	s.Write(nil)
	s.Write([]byte{})
	if got, want := s.Sum(), sha256.Sum256(nil); got != want {
		t.Errorf("with nothing written: %x, want %x", got, want)
	}
}

// TestWriteInPieces: 2.2, in whichever parts bytes come.
func TestWriteInPieces(t *testing.T) {
	b := text(5*sha.Block + 3)
	for _, n := range []int{0, 1, 55, 56, 57, 63, 64, 65, 127, 128, 129, 320, len(b)} {
		want := sha256.Sum256(b[:n])
		for size := 1; size <= 3*sha.Block; size++ {
			s := sha.New()
			for at := 0; at < n; at += size {
				s.Write(b[at:min(at+size, n)])
			}
			if got := s.Sum(); got != want {
				t.Fatalf("%d bytes, %d at a time: %x, want %x", n, size, got, want)
			}
		}
	}
}

// TestWriteInUnlikePieces: 2.2, small and great parts mixed, those without bytes too.
func TestWriteInUnlikePieces(t *testing.T) {
	b := text(2000)
	s := sha.New()
	at := 0
	for _, size := range []int{0, 63, 0, 1, 1, 62, 1, 64, 0, 65, 128, 63, 200, 129, 7, 500, 3} {
		s.Write(b[at : at+size])
		at += size
		if got, want := s.Sum(), sha256.Sum256(b[:at]); got != want {
			t.Fatalf("behind %d bytes: %x, want %x", at, got, want)
		}
	}
}

// TestSumAtEveryByte: 2.2, the sum is asked for whenever, twice, and more may come then.
func TestSumAtEveryByte(t *testing.T) {
	b := text(4*sha.Block + 1)
	s := sha.New()
	for n := range len(b) {
		want := sha256.Sum256(b[:n])
		if got := s.Sum(); got != want {
			t.Fatalf("behind %d bytes: %x, want %x", n, got, want)
		}
		if got := s.Sum(); got != want {
			t.Fatalf("behind %d bytes, asked again: %x, want %x", n, got, want)
		}
		s.Write(b[n : n+1])
	}
}

// TestSumBetweenTwoParts: 2.2, asked at each place of the first blocks, what comes then is behind what came.
func TestSumBetweenTwoParts(t *testing.T) {
	b := text(3 * sha.Block)
	want := sha256.Sum256(b)
	for n := range len(b) + 1 {
		s := sha.New()
		s.Write(b[:n])
		s.Sum()
		s.Write(b[n:])
		if got := s.Sum(); got != want {
			t.Fatalf("asked at %d: %x, want %x", n, got, want)
		}
	}
}

// TestTwoStates: 2.2, what comes to one is not in the other.
func TestTwoStates(t *testing.T) {
	b := text(150)
	one, other := sha.New(), sha.New()
	for i := range b {
		one.Write(b[i : i+1])
		if i%2 == 0 {
			other.Write([]byte("x"))
		}
		sha.Of(b)
	}
	if got, want := one.Sum(), sha256.Sum256(b); got != want {
		t.Errorf("one: %x, want %x", got, want)
	}
	if got, want := other.Sum(), sha256.Sum256([]byte(strings.Repeat("x", 75))); got != want {
		t.Errorf("other: %x, want %x", got, want)
	}
}

// TestWriteKeepsNothing: R3, what was written may be written over, and what lies behind it does not count.
func TestWriteKeepsNothing(t *testing.T) {
	for _, n := range []int{1, 10, 63, 64, 65, 130} {
		original := text(n)
		b, stay := guarded(t, string(original))
		s := sha.New()
		s.Write(b)
		want := sha256.Sum256(original)
		if got := s.Sum(); got != want {
			t.Errorf("%d bytes: %x, want %x", n, got, want)
		}
		stay()
		clear(b)
		if got := s.Sum(); got != want {
			t.Errorf("%d bytes, written over behind Write: %x, want %x", n, got, want)
		}
	}
}

// TestSumIsNew: R3, a sum that is written to changes neither the state nor the next sum.
func TestSumIsNew(t *testing.T) {
	s := sha.New()
	s.Write([]byte("abc"))
	sum := s.Sum()
	clear(sum[:])
	if got, want := s.Sum(), sha256.Sum256([]byte("abc")); got != want {
		t.Errorf("%x, want %x", got, want)
	}
}
