package chunk_test

import (
	"bytes"
	"testing"

	"deedbox/api"
	"deedbox/chunk"
	"deedbox/seal"
)

// TestCutOfCover: 13.5, any bytes are cut out of just the pieces that cover them; of fewer they are not.
func TestCutOfCover(t *testing.T) {
	for _, s := range kinds() {
		for _, size := range sizes() {
			key, what, text := keyOf(uint32(size)), []byte("x"), row(size, 1)
			l := sealedBy(t, s, key, what, text)
			pieces := make([][]byte, len(l))
			for i := range l {
				pieces[i], _ = chunk.Open(s, key, what, size, i, l[i])
			}
			for _, from := range edges() {
				for _, to := range edges() {
					if from < to && to <= size {
						cutOfCover(t, pieces, text, from, to)
					}
				}
			}
		}
	}
}

func cutOfCover(t *testing.T, pieces [][]byte, text []byte, from, to int) {
	t.Helper()
	first, n := chunk.Cover(len(text), from, to)
	if n < 1 || first < 0 || first+n > len(pieces) {
		t.Fatalf("Cover(%d, %d, %d): %d, %d", len(text), from, to, first, n)
	}
	if got := chunk.Cut(pieces[first:first+n], first, from, to); !bytes.Equal(got, text[from:to]) {
		t.Errorf("of %d bytes, %d up to %d: %x", len(text), from, to, got)
	}
	if got := chunk.Cut(pieces[first:first+n-1], first, from, to); len(got) != 0 {
		t.Errorf("of %d bytes, %d up to %d, without the last piece: %x", len(text), from, to, got)
	}
	if got := chunk.Cut(pieces[first+1:first+n], first+1, from, to); len(got) != 0 {
		t.Errorf("of %d bytes, %d up to %d, without the first piece: %x", len(text), from, to, got)
	}
}

// stood is a block, and where it was sealed.
type stood struct {
	key, what []byte
	size, i   int
	block     []byte
	piece     []byte
}

// stands seals texts that are alike in much: under one key, of one thing, of one size, of the same bytes.
func stands(t *testing.T, s *seal.Sealer) []stood {
	t.Helper()
	var l []stood
	for _, key := range [][]byte{keyOf(1), keyOf(2)} {
		for _, what := range [][]byte{nil, []byte("x"), []byte("y")} {
			for _, size := range []int{0, 8, 496, 504, 992, 1000} {
				text := bytes.Repeat([]byte("abcdefgh"), size/8)
				for i, b := range sealedBy(t, s, key, what, text) {
					from, to := chunk.Part(size, i)
					l = append(l, stood{key, what, size, i, b, text[from:to]})
				}
			}
		}
	}
	return l
}

// place is all by which a piece is sealed: its own, though texts of other sizes may have the same.
type place struct {
	key, what string
	i, length int
	last      bool
}

func (x stood) place() place {
	return place{string(x.key), string(x.what), x.i, len(x.piece), x.i == len(partsOf(x.size))-1}
}

// TestOwnPlaceAlone: 13.5, each block at the place of each other one: it opens in its own place alone, ideally; for real, too.
func TestOwnPlaceAlone(t *testing.T) {
	for _, s := range kinds() {
		l := stands(t, s)
		opened := 0
		for _, x := range l {
			for _, y := range l {
				if x.place() == y.place() {
					opens(t, s, y.key, y.what, y.size, y.i, x.block, x.piece)
					opened++
				} else {
					refuses(t, s, y.key, y.what, y.size, y.i, x.block, api.ErrIntegrity)
				}
			}
		}
		if opened <= len(l) || opened == len(l)*len(l) {
			t.Errorf("%d of %d opened", opened, len(l)*len(l))
		}
		if s.Forged() {
			t.Errorf("ideal %t: forged", s.Ideal())
		}
	}
}

// TestMovedLeftOutPutBehind: 13.5, of the text that is asked for by its size.
func TestMovedLeftOutPutBehind(t *testing.T) {
	what := []byte("x")
	for _, s := range kinds() {
		l := sealedBy(t, s, keyOf(1), what, row(4*496, 1))
		for i := range l {
			for j := range l {
				if i != j {
					refuses(t, s, keyOf(1), what, 4*496, i, l[j], api.ErrIntegrity)
				}
			}
		}
		// Cut short, or gone on, a text has no last piece.
		refuses(t, s, keyOf(1), what, 3*496, 2, l[2], api.ErrIntegrity)
		refuses(t, s, keyOf(1), what, 5*496, 3, l[3], api.ErrIntegrity)
		refuses(t, s, keyOf(1), what, 4*496+1, 3, l[3], api.ErrIntegrity)
		refuses(t, s, keyOf(1), what, 4*496-1, 3, l[3], api.ErrIntegrity)
		refuses(t, s, keyOf(1), what, 4*496+1, 4, l[3], api.ErrIntegrity)
		opens(t, s, keyOf(1), what, 5*496, 2, l[2], row(4*496, 1)[2*496:3*496])
	}
}

// TestSealersApart: 13.5, ideally a block opens by the sealer alone that made it.
func TestSealersApart(t *testing.T) {
	one, other := seal.New(true), seal.New(true)
	l := sealedBy(t, one, keyOf(1), []byte("x"), row(1000, 1))
	for i := range l {
		refuses(t, other, keyOf(1), []byte("x"), 1000, i, l[i], api.ErrIntegrity)
	}
	sealedBy(t, other, keyOf(2), []byte("x"), row(1000, 1))
	for i := range l {
		refuses(t, other, keyOf(1), []byte("x"), 1000, i, l[i], api.ErrIntegrity)
	}
}

// TestNothingButLengths: 12.6 and P3, ideally blocks are the same for all texts of one length, keys, and things that they are.
func TestNothingButLengths(t *testing.T) {
	for _, size := range sizes() {
		one := sealedBy(t, seal.New(true), keyOf(1), []byte("x"), row(size, 1))
		other := sealedBy(t, seal.New(true), keyOf(2), row(300, 1), row(size, 2))
		for i := range one {
			if !bytes.Equal(one[i], other[i]) {
				t.Errorf("block %d of %d bytes: %x, %x", i, size, one[i], other[i])
			}
		}
	}
}
