package sha

import (
	"crypto/sha256"
	"encoding"
	"encoding/binary"
	"testing"
)

// stdSum is what the library's sum answers for a state: the library's own form of a state is its mark, the words, the bytes that are not taken yet, and the count.
func stdSum(t *testing.T, s *State) [Size]byte {
	t.Helper()
	form := []byte("sha\x03")
	for _, x := range s.sum {
		form = binary.BigEndian.AppendUint32(form, x)
	}
	form = append(form, s.rest[:]...)
	form = binary.BigEndian.AppendUint64(form, s.count)
	h := sha256.New()
	if err := h.(encoding.BinaryUnmarshaler).UnmarshalBinary(form); err != nil {
		t.Fatal(err)
	}
	return [Size]byte(h.Sum(nil))
}

// TestLengthInEightBytes: 2.1, texts whose length does not go into four bytes, or whose bits do not; to write them whole would take too long.
func TestLengthInEightBytes(t *testing.T) {
	for _, count := range []uint64{0, 64, 1<<29 - 64, 1 << 29, 1<<31 - 64, 1 << 32, 1 << 40, 1 << 60} {
		for n := range Block {
			s := New()
			s.count = count
			for i := range n {
				s.Write([]byte{byte(i + 1)})
			}
			if got, want := s.Sum(), stdSum(t, s); got != want {
				t.Errorf("%d bytes and %d: %x, want %x", count, n, got, want)
			}
		}
	}
}

// TestRestIsEmptied: what was taken is not kept.
func TestRestIsEmptied(t *testing.T) {
	s := New()
	s.Write(make([]byte, Block-1))
	s.Write([]byte{1, 2, 3})
	if s.rest != [Block]byte{2, 3} {
		t.Errorf("%v", s.rest)
	}
}
