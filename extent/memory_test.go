package extent_test

import (
	"bytes"
	"slices"
	"testing"

	"deedbox/api"
	"deedbox/extent"
)

// scribble writes over bytes, and over what lies behind their length.
func scribble(b []byte) {
	b = b[:cap(b)]
	for i := range b {
		b[i] += 13
	}
}

// hands hands bytes in with others behind them in their memory, and knows what all of that was.
type hands struct{ now, was [][]byte }

func (h *hands) in(b []byte) []byte {
	whole := append(bytes.Clone(b), row(600, uint32(len(h.now)))...)
	h.now, h.was = append(h.now, whole), append(h.was, bytes.Clone(whole))
	return whole[:len(b)]
}

// stay holds all that was handed in against what it was, and writes over it.
func (h *hands) stay(t *testing.T) {
	t.Helper()
	for i := range h.now {
		if !bytes.Equal(h.now[i], h.was[i]) {
			t.Errorf("bytes %d were changed", i)
		}
		scribble(h.now[i])
	}
	h.now, h.was = nil, nil
}

// TestHandedIn: R3, keys, what texts are, and texts that are handed in are neither changed nor kept, nor is what lies behind them read.
func TestHandedIn(t *testing.T) {
	for _, ideal := range kinds() {
		for i, size := range sizes() {
			w, plain, h := made(t, 60, ideal), made(t, 60, ideal), &hands{}
			from, what, b := fromOf(i), row(i, 5), row(size, 6)
			x, y := w.begin(t), plain.begin(t)
			r, code := extent.Write(x, w.s, h.in(from), h.in(what), h.in(b))
			h.stay(t)
			z := plain.write(t, y, from, what, b)
			if code != api.OK || r != z.run || !slices.EqualFunc(w.d.Seen(), plain.d.Seen(), sameTouch) {
				t.Errorf("%d bytes: %v, code %d", size, r, code)
			}
			commit(t, x)
			w.texts = append(w.texts, z)
			w.check(t)
			for _, lo := range edges(size) {
				got, code := extent.Read(w.h, w.s, h.in(from), h.in(what), r, lo, size)
				h.stay(t)
				if code != api.OK || !bytes.Equal(got, b[lo:]) {
					t.Errorf("%d bytes from %d on: %d, code %d", size, lo, len(got), code)
				}
			}
			got, code := extent.All(w.h, w.s, h.in(from), h.in(what), r)
			h.stay(t)
			if code != api.OK || !bytes.Equal(got, b) {
				t.Errorf("all of %d bytes: %d, code %d", size, len(got), code)
			}
			w.check(t)
		}
	}
}

// TestHandedOut: R3, answers are new memory: who writes over them, and over what lies behind them, changes neither the texts nor other answers.
func TestHandedOut(t *testing.T) {
	for _, ideal := range kinds() {
		w := made(t, 120, ideal)
		for i, size := range sizes() {
			w.put(t, size, i)
		}
		for _, y := range w.texts {
			for _, lo := range edges(y.run.Size) {
				one, _ := w.read(y, lo, y.run.Size)
				other, _ := w.read(y, lo, y.run.Size)
				scribble(one)
				if !bytes.Equal(other, y.bytes[lo:]) {
					t.Errorf("%v: one answer has memory of another one", y.run)
				}
				scribble(other)
			}
		}
		w.check(t)
	}
}

// TestNilAndNone: R3, lists that are nil and those without elements are the same.
func TestNilAndNone(t *testing.T) {
	none := [][]byte{nil, {}}
	for _, ideal := range kinds() {
		var seen []api.Touch
		for i := range 8 {
			w := made(t, 40, ideal)
			x := w.begin(t)
			y := w.write(t, x, none[i&1], none[i>>1&1], none[i>>2])
			commit(t, x)
			for _, from := range none {
				for _, what := range none {
					w.reads(t, text{from, what, nil, y.run}, 0, 0)
				}
			}
			if i == 0 {
				seen = w.d.Seen()
			}
			if !slices.EqualFunc(w.d.Seen(), seen, sameTouch) {
				t.Errorf("ideal %t: %d: the disk saw something else", ideal, i)
			}
		}
	}
}
