package chunk_test

import (
	"bytes"
	"testing"

	"deedbox/api"
	"deedbox/chunk"
)

// scribble writes over bytes, and over what lies behind their length.
func scribble(b []byte) {
	b = b[:cap(b)]
	for i := range b {
		b[i] += 13
	}
}

// hands hands bytes in with others behind them in their memory, and knows what all of that was.
type hands struct{ now, was [][]byte }

func (h *hands) in(b []byte) []byte {
	whole := append(bytes.Clone(b), row(600, uint32(len(h.now)))...)
	h.now, h.was = append(h.now, whole), append(h.was, bytes.Clone(whole))
	return whole[:len(b)]
}

func (h *hands) stay(t *testing.T) {
	t.Helper()
	for i := range h.now {
		if !bytes.Equal(h.now[i], h.was[i]) {
			t.Errorf("argument %d was changed", i)
		}
	}
}

// TestHandedInStays: R3, what is handed in is not changed, and what lies behind it is neither read nor changed, nor handed out.
func TestHandedInStays(t *testing.T) {
	for _, s := range kinds() {
		for j, size := range sizes() {
			h, key, what, text := &hands{}, keyOf(uint32(j)), row(9, 1), row(size, 2)
			l := sealedBy(t, s, h.in(key), h.in(what), h.in(text))
			var pieces [][]byte
			for i, p := range partsOf(size) {
				opens(t, s, h.in(key), h.in(what), size, i, h.in(l[i]), text[p.from:p.to])
				pieces = append(pieces, h.in(text[p.from:p.to]))
				refuses(t, s, h.in(key), h.in(what), size, i, h.in(turned(l[i], 3)), api.ErrIntegrity)
				refuses(t, s, h.in(key[1:]), h.in(what), size, i, h.in(l[i]), api.ErrSize)
				refuses(t, s, h.in(key), h.in(what), size, i, h.in(l[i][1:]), api.ErrSize)
			}
			behind := append(pieces, row(496, 3))
			if got := chunk.Cut(behind[:len(pieces)], 0, 0, size); !bytes.Equal(got, text) {
				t.Errorf("%x; want %x", got, text)
			}
			if got := chunk.Cut(behind[:len(pieces)], 0, 0, size+1); len(got) != 0 {
				t.Errorf("what lies behind is there: %x", got)
			}
			h.stay(t)
		}
	}
}

// TestNothingHandedInIsKept: R3, what was handed in may be written over.
func TestNothingHandedInIsKept(t *testing.T) {
	for _, s := range kinds() {
		key, what, text := keyOf(1), row(9, 1), row(1000, 2)
		l := sealedBy(t, s, key, what, text)
		was := [][]byte{bytes.Clone(l[0]), bytes.Clone(l[1]), bytes.Clone(l[2])}
		for _, b := range [][]byte{key, what, text} {
			scribble(b)
		}
		for i := range l {
			if !bytes.Equal(l[i], was[i]) {
				t.Errorf("ideal %t: block %d was changed", s.Ideal(), i)
			}
			from, to := chunk.Part(1000, i)
			opens(t, s, keyOf(1), row(9, 1), 1000, i, l[i], row(1000, 2)[from:to])
		}
		got, _ := chunk.Open(s, keyOf(1), row(9, 1), 1000, 2, l[2])
		scribble(l[2])
		if !bytes.Equal(got, row(1000, 2)[992:]) {
			t.Errorf("ideal %t: %x", s.Ideal(), got)
		}
	}
}

// TestAnswersAreNew: R3, answers that are written over change no other one, nothing that was handed in, and nothing in the book.
func TestAnswersAreNew(t *testing.T) {
	for _, s := range kinds() {
		text := row(1000, 2)
		l := sealedBy(t, s, keyOf(1), nil, text)
		was := [][]byte{bytes.Clone(l[0]), bytes.Clone(l[1]), bytes.Clone(l[2])}
		for i := range l {
			scribble(l[i])
			for j := i + 1; j < len(l); j++ {
				if !bytes.Equal(l[j], was[j]) {
					t.Errorf("ideal %t: blocks %d and %d share memory", s.Ideal(), i, j)
				}
			}
		}
		for range 2 {
			for i := range was {
				from, to := chunk.Part(1000, i)
				opens(t, s, keyOf(1), nil, 1000, i, was[i], row(1000, 2)[from:to])
				got, _ := chunk.Open(s, keyOf(1), nil, 1000, i, was[i])
				scribble(got)
			}
		}
		if !bytes.Equal(text, row(1000, 2)) {
			t.Errorf("ideal %t: the text was changed", s.Ideal())
		}
	}
}

// TestCutsAreNew: R3, of one piece, of a whole one, and of many.
func TestCutsAreNew(t *testing.T) {
	pieces := piecesOf(496, 496, 8)
	was := piecesOf(496, 496, 8)
	for _, p := range []part{{0, 1}, {3, 100}, {0, 496}, {496, 992}, {992, 1000}, {495, 497}, {0, 1000}} {
		got := chunk.Cut(pieces, 0, p.from, p.to)
		if !bytes.Equal(got, cutOf(was, 0, p.from, p.to)) {
			t.Errorf("%d up to %d: %x", p.from, p.to, got)
		}
		again := chunk.Cut(pieces, 0, p.from, p.to)
		scribble(got)
		if !bytes.Equal(again, cutOf(was, 0, p.from, p.to)) {
			t.Errorf("%d up to %d, once more: %x", p.from, p.to, again)
		}
		for i := range pieces {
			if !bytes.Equal(pieces[i], was[i]) {
				t.Errorf("%d up to %d: piece %d was changed", p.from, p.to, i)
			}
		}
	}
}

// TestNilAndNone: R3, lists that are nil and those without elements are the same.
func TestNilAndNone(t *testing.T) {
	none := [][]byte{nil, {}}
	for _, s := range kinds() {
		for _, what := range none {
			for _, text := range none {
				l := sealedBy(t, s, keyOf(1), what, text)
				for _, other := range none {
					opens(t, s, keyOf(1), other, 0, 0, l[0], nil)
				}
			}
		}
		tells(t, s, 4, false)
		for _, block := range none {
			refuses(t, s, keyOf(1), nil, 0, 0, block, api.ErrSize)
		}
	}
	for _, pieces := range [][][]byte{nil, {}, {nil}, {{}}} {
		if got := chunk.Cut(pieces, 0, 0, 1); len(got) != 0 {
			t.Errorf("%x", got)
		}
		if got := chunk.Cut(append(pieces, row(8, 1)), 0, 0, 8); !bytes.Equal(got, row(8, 1)) {
			t.Errorf("%x", got)
		}
	}
}
