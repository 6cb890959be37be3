package sheaf_test

import (
	"bytes"
	"testing"

	"deedbox/api"
	"deedbox/sheaf"
)

// scribble writes over bytes, and over what lies behind their length.
func scribble(b []byte) {
	b = b[:cap(b)]
	for i := range b {
		b[i] += 13
	}
}

// hands hands bytes in with others behind them in their memory, and knows what all of that was.
type hands struct{ now, was [][]byte }

func (h *hands) in(b []byte) []byte {
	whole := append(bytes.Clone(b), row(600, uint32(len(h.now)))...)
	h.now, h.was = append(h.now, whole), append(h.was, bytes.Clone(whole))
	return whole[:len(b)]
}

func (h *hands) stay(t *testing.T) {
	t.Helper()
	for i := range h.now {
		if !bytes.Equal(h.now[i], h.was[i]) {
			t.Errorf("bytes %d were changed", i)
		}
	}
}

// over writes over all that was handed in.
func (h *hands) over() {
	for _, b := range h.now {
		scribble(b)
	}
}

// TestHandedIn: R3, what is handed in is not changed, nor is what lies behind it read; it is not kept, and may be written over at once.
func TestHandedIn(t *testing.T) {
	for _, ideal := range kinds() {
		v, in := newDevices(t, 34, ideal), &hands{}
		if code := sheaf.Format(v.keeper(t), in.in(masterOf(1))); code != api.OK {
			t.Fatalf("Format: code %d", code)
		}
		k := v.keeper(t)
		if code := sheaf.Format(k, in.in(masterOf(1))); code != api.OK {
			t.Fatalf("Format: code %d", code)
		}
		in.stay(t)
		in.over()
		checkAnchor(t, k, api.Anchor{Seq: 2, Root: -1, Master: masterOf(1)})
		h := opens(t, v.d, v.s, k, api.OK)
		in = &hands{}
		x := begin(t, h)
		takes(t, x, 4, 24)
		for i := range 3 {
			store(t, x, 24+i, in.in(pageOf(1+i)))
		}
		stores(t, x, 24, in.in(row(495, 1)), api.ErrSize, 3)
		writes(t, x, 27, in.in(blockOf(7)), api.OK)
		writes(t, x, 27, in.in(row(511, 7)), api.ErrSize)
		in.stay(t)
		in.over()
		for i := range 3 {
			loads(t, x, 24+i, 1, pageOf(1+i))
		}
		commit(t, x, 24)
		for i := range 3 {
			loads(t, h, 24+i, 1, pageOf(1+i))
			loads(t, x, 24+i, 1, pageOf(1+i))
		}
		if b, code := h.Block(27); code != api.OK || !bytes.Equal(b, blockOf(7)) {
			t.Errorf("%d bytes, code %d", len(b), code)
		}
	}
}

// TestAnswersAreNew: R3, what is answered may be written over: neither the sheaf, nor the change, nor the disk, nor the keeper is changed.
func TestAnswersAreNew(t *testing.T) {
	for _, ideal := range kinds() {
		v, h := formatted(t, 34, ideal)
		made(t, h, 2, 1)
		x := begin(t, h)
		store(t, x, 25, pageOf(11))
		for range 3 {
			for _, k := range []known{{24, 1}, {25, 2}} {
				b, code := x.Load(k.page, k.epoch)
				if code != api.OK {
					t.Fatalf("code %d", code)
				}
				scribble(b)
			}
			one, _ := h.Load(24, 1)
			other, _ := h.Load(24, 1)
			block, _ := h.Block(24)
			scribble(one)
			if !bytes.Equal(other, pageOf(1)) {
				t.Error("two answers share memory")
			}
			scribble(block)
			scribble(last(t, h.Keeper()).Master)
		}
		loads(t, x, 24, 1, pageOf(1))
		loads(t, x, 25, 2, pageOf(11))
		commit(t, x, 24)
		loads(t, h, 25, 2, pageOf(11))
		loads(t, v.open(t), 24, 1, pageOf(1))
	}
}

// TestSharedBytes: R3, pages that share one row of bytes are stored each by itself.
func TestSharedBytes(t *testing.T) {
	_, h := formatted(t, 34, true)
	x := begin(t, h)
	takes(t, x, 2, 24)
	b := pageOf(1)
	store(t, x, 24, b)
	copy(b, pageOf(2))
	store(t, x, 25, b)
	loads(t, x, 24, 1, pageOf(1))
	loads(t, x, 25, 1, pageOf(2))
	got, _ := x.Load(24, 1)
	store(t, x, 25, got)
	scribble(got)
	commit(t, x, 24)
	loads(t, h, 24, 1, pageOf(1))
	loads(t, h, 25, 1, pageOf(1))
}

// TestNilAndNone: R3, lists that are nil and those without elements are the same.
func TestNilAndNone(t *testing.T) {
	v, h := formatted(t, 34, true)
	x := begin(t, h)
	takes(t, x, 1, 24)
	for _, b := range [][]byte{nil, {}} {
		if code := sheaf.Format(v.keeper(t), b); code != api.ErrSize {
			t.Errorf("Format: code %d", code)
		}
		stores(t, x, 24, b, api.ErrSize, 0)
		writes(t, x, 24, b, api.ErrSize)
	}
}

// TestPageOfNoughts: 17.6, a page of noughts is a page as any other.
func TestPageOfNoughts(t *testing.T) {
	for _, ideal := range kinds() {
		_, h := formatted(t, 34, ideal)
		x := begin(t, h)
		takes(t, x, 1, 24)
		store(t, x, 24, make([]byte, 496))
		loads(t, x, 24, 1, make([]byte, 496))
		commit(t, x, 24)
		loads(t, h, 24, 1, make([]byte, 496))
	}
}
