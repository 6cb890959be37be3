package redo_test

import (
	"bytes"
	"testing"

	"deedbox/api"
	"deedbox/redo"
)

// scribble writes over bytes, and over what lies behind their length.
func scribble(b []byte) {
	b = b[:cap(b)]
	for i := range b {
		b[i] += 13
	}
}

// hands hands bytes and images in with others behind them in their memory, and knows what all of that was.
type hands struct {
	now, was [][]byte
	lists    [][]api.Image
	pages    [][]int
}

func (h *hands) in(b []byte) []byte {
	whole := append(bytes.Clone(b), row(600, uint32(len(h.now)))...)
	h.now, h.was = append(h.now, whole), append(h.was, bytes.Clone(whole))
	return whole[:len(b)]
}

// list hands images in, with some behind them that are right, and one that is wrong.
func (h *hands) list(l []api.Image) []api.Image {
	var whole []api.Image
	for _, x := range append(append([]api.Image{}, l...), images(30, 9)...) {
		whole = append(whole, api.Image{Page: x.Page, Block: h.in(x.Block)})
	}
	whole = append(whole, api.Image{Page: -1})
	h.lists, h.pages = append(h.lists, whole), append(h.pages, pagesOf(whole))
	return whole[:len(l)]
}

func (h *hands) stay(t *testing.T) {
	t.Helper()
	for i := range h.now {
		if !bytes.Equal(h.now[i], h.was[i]) {
			t.Errorf("bytes %d were changed", i)
		}
	}
	for i, l := range h.lists {
		for j, x := range l {
			if x.Page != h.pages[i][j] {
				t.Errorf("image %d of list %d was changed", j, i)
			}
		}
	}
}

// TestHandedInStays: R3, what is handed in is not changed, and what lies behind it is neither read nor changed, nor noted.
func TestHandedInStays(t *testing.T) {
	for _, s := range kinds() {
		for n := range redo.Most + 1 {
			d, _ := newDisk(t, 64)
			h, l, key := &hands{}, images(n, 1), keyOf(1)
			notes(t, d, s, h.in(key), n, h.list(l))
			has(t, d, s, h.in(key), n, l)
			if code := redo.Apply(d, h.list(l)); code != api.OK {
				t.Errorf("Apply: code %d", code)
			}
			checkSeen(t, d, 2*n+3, touches(l...), 0)
			refuses(t, d, s, h.in(key[1:]), n, n, api.ErrSize)
			if code := redo.Write(d, s, h.in(key[1:]), n, h.list(l)); code != api.ErrSize {
				t.Errorf("Write: code %d", code)
			}
			h.stay(t)
		}
	}
}

// TestNothingHandedInIsKept: R3, what was handed in may be written over.
func TestNothingHandedInIsKept(t *testing.T) {
	for _, s := range kinds() {
		d, _ := newDisk(t, 64)
		l, key := images(5, 1), keyOf(1)
		notes(t, d, s, key, 1, l)
		m := images(5, 1)
		if code := redo.Apply(d, m); code != api.OK {
			t.Errorf("Apply: code %d", code)
		}
		want := state(d)
		scribble(key)
		for _, list := range [][]api.Image{l, m} {
			for i := range list {
				scribble(list[i].Block)
				list[i].Page = 9
			}
		}
		checkState(t, d, want)
		has(t, d, s, keyOf(1), 1, images(5, 1))
	}
}

// TestAnswersAreNew: R3, images that are written over change no other one, and nothing on the disk.
func TestAnswersAreNew(t *testing.T) {
	for _, s := range kinds() {
		d, _ := newDisk(t, 64)
		l := images(23, 1)
		notes(t, d, s, keyOf(1), 1, l)
		got, _ := redo.Read(d, s, keyOf(1), 1, 23)
		if len(got) != 23 {
			t.Fatalf("%d images", len(got))
		}
		for i := range got {
			scribble(got[i].Block)
			got[i].Page = -1
			if !sameImages(got[i+1:], l[i+1:]) {
				t.Fatalf("image %d shares memory with one behind it", i)
			}
		}
		has(t, d, s, keyOf(1), 1, l)
	}
}

// TestSharedBlocks: R3, images that share one row of bytes are noted, and read, each by itself.
func TestSharedBlocks(t *testing.T) {
	for _, s := range kinds() {
		d, _ := newDisk(t, 64)
		b := row(512, 1)
		l := []api.Image{{Page: 30, Block: b}, {Page: 31, Block: b}, {Page: 30, Block: b}}
		notes(t, d, s, keyOf(1), 1, l)
		got, code := redo.Read(d, s, keyOf(1), 1, 3)
		if code != api.OK || !sameImages(got, l) {
			t.Fatalf("%d images, code %d", len(got), code)
		}
		scribble(got[0].Block)
		if !sameImages(got[1:], l[1:]) {
			t.Error("images that are answered share memory")
		}
	}
}

// TestNilAndNone: R3, lists that are nil and those without elements are the same.
func TestNilAndNone(t *testing.T) {
	for _, s := range kinds() {
		for i, l := range [][]api.Image{nil, {}} {
			d, _ := newDisk(t, 1)
			notes(t, d, s, keyOf(1), i, l)
			has(t, d, s, keyOf(1), i, nil)
			if code := redo.Apply(d, l); code != api.OK || d.Steps() != 4 {
				t.Errorf("code %d, %d steps", code, d.Steps())
			}
			for _, key := range [][]byte{nil, {}} {
				refuses(t, d, s, key, i, 0, api.ErrSize)
			}
			for _, b := range [][]byte{nil, {}} {
				if code := redo.Write(d, s, keyOf(1), i, []api.Image{{Block: b}}); code != api.ErrSize {
					t.Errorf("code %d", code)
				}
				if code := redo.Apply(d, []api.Image{{Block: b}}); code != api.ErrSize {
					t.Errorf("code %d", code)
				}
			}
		}
	}
}
