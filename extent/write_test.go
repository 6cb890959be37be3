package extent_test

import (
	"bytes"
	"math"
	"slices"
	"testing"

	"deedbox/api"
	"deedbox/chunk"
	"deedbox/extent"
	"deedbox/seal"
	"deedbox/sheaf"
)

// TestBlocks: 20.1, how many blocks a text takes: one at least; R5: one of a size below 0 takes none.
func TestBlocks(t *testing.T) {
	for size := range 5000 {
		for _, at := range []int{0, 24, 4095} {
			if n := (extent.Run{At: at, Size: size}).Blocks(); n != blocksOf(size) {
				t.Errorf("%d bytes: %d blocks", size, n)
			}
		}
	}
	for _, size := range []int{chunk.MaxSize - 1, chunk.MaxSize} {
		if n := (extent.Run{Size: size}).Blocks(); n != blocksOf(size) {
			t.Errorf("%d bytes: %d blocks", size, n)
		}
	}
	for _, size := range []int{-1, -496, -497, math.MinInt} {
		if n := (extent.Run{Size: size}).Blocks(); n != 0 {
			t.Errorf("%d bytes: %d blocks", size, n)
		}
	}
}

// whats is what texts are: of none, of one byte, of such as lengths and labels are made of.
func whats() [][]byte {
	return [][]byte{nil, []byte("x"), []byte("chunk"), {0, 0, 0, 0}, {0, 0, 0, 5, 'c', 'h', 'u', 'n', 'k'}, row(20, 9), row(300, 9)}
}

// wrote is what the disk is to see of blocks that are written one behind the other.
func wrote(at int, blocks [][]byte) []api.Touch {
	var l []api.Touch
	for i, b := range blocks {
		l = append(l, api.Touch{Kind: api.TouchWrite, At: at + i, Bytes: b})
	}
	return l
}

// TestWriteForReal: 20.1, the pieces are written one behind the other, and nothing else, as Go's own library seals them under the key that it derives for chunk and what.
func TestWriteForReal(t *testing.T) {
	for _, size := range sizes() {
		w := made(t, 400, false)
		x := w.begin(t)
		at := 24
		for i, what := range whats() {
			for _, from := range [][]byte{fromOf(i), row(i, 3), row(100+i, 4)} {
				seen, sealed := len(w.d.Seen()), w.s.Sealed()
				y := w.write(t, x, from, what, row(size, uint32(i)))
				if y.run.At != at {
					t.Errorf("%d bytes: %v; want block %d", size, y.run, at)
				}
				want := library(t, from, what, y.bytes)
				if !slices.EqualFunc(w.touched(seen), wrote(at, want), sameTouch) {
					t.Errorf("%d bytes of %x: what is written is not as the library seals it", size, what)
				}
				if w.s.Sealed() != sealed+len(want) {
					t.Errorf("%d bytes: %d sealed", size, w.s.Sealed()-sealed)
				}
				at += len(want)
			}
		}
		if x.Dirty() != 0 || w.s.Reused() || w.s.Forged() {
			t.Errorf("%d pages, reused %t, forged %t", x.Dirty(), w.s.Reused(), w.s.Forged())
		}
	}
}

// TestWriteIdeally: 20.1, likewise, each piece opened by hand under the sealer's own key for chunk and what.
func TestWriteIdeally(t *testing.T) {
	for _, size := range sizes() {
		w := made(t, 200, true)
		x := w.begin(t)
		for i, what := range whats() {
			seen, sealed := len(w.d.Seen()), w.s.Sealed()
			y := w.write(t, x, fromOf(i), what, row(size, uint32(i)))
			n := blocksOf(size)
			l := w.touched(seen)
			if len(l) != n || w.s.Sealed() != sealed+n {
				t.Fatalf("%d bytes: %d touches, %d sealed", size, len(l), w.s.Sealed()-sealed)
			}
			key := w.s.Derive(fromOf(i), []byte("chunk"), what)
			for j, z := range l {
				piece := y.bytes[496*j : min(496*j+496, size)]
				if z.Kind != api.TouchWrite || z.At != y.run.At+j || len(z.Bytes) != 512 {
					t.Fatalf("%d bytes, piece %d: %d at %d", size, j, z.Kind, z.At)
				}
				b, code := w.s.Open(key, nonceOf(j), besideOf(what, j, j == n-1), z.Bytes[:len(piece)+16])
				if code != api.OK || !bytes.Equal(b, piece) || !bytes.Equal(z.Bytes[len(piece)+16:], make([]byte, 496-len(piece))) {
					t.Errorf("%d bytes, piece %d: %d bytes, code %d", size, j, len(b), code)
				}
			}
		}
		if x.Dirty() != 0 || w.s.Reused() {
			t.Errorf("%d pages, reused %t", x.Dirty(), w.s.Reused())
		}
	}
}

// TestWriteArg: 20.1 and R6, without a change, or without a sealer, whatever else is wrong: nothing is taken, sealed, or written.
func TestWriteArg(t *testing.T) {
	w := made(t, 24, true)
	x := w.begin(t)
	steps := w.p.Steps()
	for _, b := range [][]byte{nil, row(1, 1), make([]byte, chunk.MaxSize+1)} {
		for _, r := range []struct {
			x *sheaf.Tx
			s *seal.Sealer
		}{{nil, w.s}, {x, nil}, {nil, nil}} {
			if run, code := extent.Write(r.x, r.s, fromOf(1), nil, b); code != api.ErrArg || run != (extent.Run{}) {
				t.Errorf("%d bytes: %v, code %d", len(b), run, code)
			}
		}
	}
	if w.p.Steps() != steps || w.s.Sealed() != 0 {
		t.Errorf("%d steps, %d sealed", w.p.Steps()-steps, w.s.Sealed())
	}
}

// TestWriteSize: 20.1 and R6, a text of more bytes than may be, on a disk without room, too: nothing is taken, sealed, or written.
func TestWriteSize(t *testing.T) {
	for _, size := range []int{24, 30, 4096} {
		w := made(t, size, true)
		x := w.begin(t)
		steps := w.p.Steps()
		for _, n := range []int{chunk.MaxSize + 1, chunk.MaxSize + 496, 2 * chunk.MaxSize} {
			if run, code := extent.Write(x, w.s, fromOf(1), nil, make([]byte, n)); code != api.ErrSize || run != (extent.Run{}) {
				t.Errorf("%d bytes: %v, code %d", n, run, code)
			}
		}
		if w.p.Steps() != steps || w.s.Sealed() != 0 {
			t.Errorf("%d steps, %d sealed", w.p.Steps()-steps, w.s.Sealed())
		}
		if size > 24 {
			if y := w.write(t, x, fromOf(1), nil, row(9, 1)); y.run.At != 24 {
				t.Errorf("%v", y.run)
			}
		}
	}
}

// TestWriteGreatest: 20.1 and 20.2, a text of as many bytes as may be: 2115 blocks; on a disk with one block less there is no room.
func TestWriteGreatest(t *testing.T) {
	for _, ideal := range kinds() {
		w := made(t, 24+2115, ideal)
		y := w.put(t, chunk.MaxSize, 7)
		if y.run != (extent.Run{At: 24, Size: 1 << 20}) || y.run.Blocks() != 2115 || len(w.free()) != 0 {
			t.Errorf("%v, %d blocks, %d free", y.run, y.run.Blocks(), len(w.free()))
		}
		w.check(t)
		for _, lo := range []int{0, 495, 2114*496 - 1, chunk.MaxSize - 1} {
			w.reads(t, y, lo, lo+1)
			w.reads(t, y, lo, chunk.MaxSize)
		}
		w.reads(t, y, chunk.MaxSize, chunk.MaxSize)
		w.refuses(t, y, 0, chunk.MaxSize+1, api.ErrRange)
		w = made(t, 24+2114, ideal)
		if run, code := extent.Write(w.begin(t), w.s, fromOf(1), nil, y.bytes); code != api.ErrNoSpace || run != (extent.Run{}) {
			t.Errorf("%v, code %d", run, code)
		}
	}
}

// TestWriteNoSpace: 20.1, no run of free blocks is as long: nothing is sealed, or written, and the change goes on; as many as there are suffice.
func TestWriteNoSpace(t *testing.T) {
	for _, ideal := range kinds() {
		for _, size := range sizes() {
			n := blocksOf(size)
			w := made(t, 24+2*n, ideal)
			// No run is longer than n - 1, though there are blocks enough.
			if code := w.h.Space().Mark(24+n-1, 1); code != api.OK {
				t.Fatalf("Mark: code %d", code)
			}
			if code := w.h.Space().Mark(24+2*n-1, 1); code != api.OK {
				t.Fatalf("Mark: code %d", code)
			}
			x := w.begin(t)
			steps, sealed := w.p.Steps(), w.s.Sealed()
			if run, code := extent.Write(x, w.s, fromOf(1), nil, row(size, 1)); code != api.ErrNoSpace || run != (extent.Run{}) {
				t.Errorf("%d bytes: %v, code %d", size, run, code)
			}
			if w.p.Steps() != steps || w.s.Sealed() != sealed {
				t.Errorf("%d bytes: %d steps, %d sealed", size, w.p.Steps()-steps, w.s.Sealed()-sealed)
			}
			if code := w.h.Space().Give(24+2*n-1, 1); code != api.OK {
				t.Fatalf("Give: code %d", code)
			}
			y := w.write(t, x, fromOf(1), nil, row(size, 1))
			if y.run.At != 24+n {
				t.Errorf("%d bytes: %v", size, y.run)
			}
			commit(t, x)
			if b, code := w.all(y); code != api.OK || !bytes.Equal(b, y.bytes) {
				t.Errorf("%d bytes: %d, code %d", size, len(b), code)
			}
			if !slices.Equal(w.free(), span(24, n-1)) {
				t.Errorf("%d bytes: free are %v", size, w.free())
			}
		}
	}
}

// TestWriteFirstRun: 20.1, the first run that is long enough is taken, as the change's Take has it; no text of the same change has a block of another one.
func TestWriteFirstRun(t *testing.T) {
	for _, ideal := range kinds() {
		w := made(t, 60, ideal)
		for _, at := range []int{25, 28, 33} {
			if code := w.h.Space().Mark(at, 1); code != api.OK {
				t.Fatalf("Mark: code %d", code)
			}
		}
		x := w.begin(t)
		for i, r := range []extent.Run{{At: 29, Size: 1500}, {At: 26, Size: 992}, {At: 24, Size: 0}, {At: 34, Size: 496}, {At: 35, Size: 497}, {At: 37, Size: 23 * 496}} {
			y := w.write(t, x, fromOf(i), nil, row(r.Size, uint32(i)))
			if y.run != r {
				t.Errorf("%v; want %v", y.run, r)
			}
			w.texts = append(w.texts, y)
		}
		if run, code := extent.Write(x, w.s, fromOf(99), nil, nil); code != api.ErrNoSpace || run != (extent.Run{}) {
			t.Errorf("%v, code %d", run, code)
		}
		commit(t, x)
		for _, at := range []int{25, 28, 33} {
			if code := w.h.Space().Give(at, 1); code != api.OK {
				t.Errorf("block %d: code %d", at, code)
			}
		}
		w.check(t)
	}
}

// TestWriteDown: 20.1, the power goes at each block: just the ones ahead of that are written, and that one, if it is said.
func TestWriteDown(t *testing.T) {
	for _, ideal := range kinds() {
		for _, size := range sizes() {
			n := blocksOf(size)
			for step := range n + 1 {
				for _, done := range []bool{false, true} {
					w := made(t, 40, ideal)
					x := w.begin(t)
					seen := len(w.d.Seen())
					w.p.Fuse(step, done)
					run, code := extent.Write(x, w.s, fromOf(1), nil, row(size, 1))
					if step == n {
						if code != api.OK || run != (extent.Run{At: 24, Size: size}) || len(w.touched(seen)) != n {
							t.Errorf("%d bytes: %v, code %d", size, run, code)
						}
						continue
					}
					want := step
					if done {
						want++
					}
					if code != api.ErrDown || run != (extent.Run{}) || len(w.touched(seen)) != want {
						t.Errorf("%d bytes, step %d, done %t: %v, code %d, %d touches", size, step, done, run, code, len(w.touched(seen)))
					}
					w.lose()
					w.open(t)
					if w.check(t); len(w.free()) != 16 {
						t.Errorf("free are %v", w.free())
					}
				}
			}
		}
	}
}

// TestWriteNoSpaceDown: 20.1 and R6, Take's code is ahead of that of the power that is gone.
func TestWriteNoSpaceDown(t *testing.T) {
	w := made(t, 25, true)
	x := w.begin(t)
	w.p.Fuse(0, false)
	w.d.Flush()
	if run, code := extent.Write(x, w.s, fromOf(1), nil, row(497, 1)); code != api.ErrNoSpace || run != (extent.Run{}) {
		t.Errorf("%v, code %d", run, code)
	}
	if run, code := extent.Write(x, w.s, fromOf(1), nil, row(496, 1)); code != api.ErrDown || run != (extent.Run{}) {
		t.Errorf("%v, code %d", run, code)
	}
}

// TestNotMade: P0, a change, a sheaf and a sealer that the calls did not make: each call ends with a code, or does nothing, and none panics.
func TestNotMade(t *testing.T) {
	w := made(t, 40, false)
	y := w.put(t, 600, 1)
	if run, code := extent.Write(new(sheaf.Tx), w.s, fromOf(1), nil, row(9, 1)); code != api.ErrNoSpace || run != (extent.Run{}) {
		t.Errorf("a change: %v, code %d", run, code)
	}
	extent.Free(new(sheaf.Tx), y.run)
	extent.Free(nil, y.run)
	if run, code := extent.Write(w.begin(t), new(seal.Sealer), fromOf(1), nil, row(9, 1)); code == api.OK || run != (extent.Run{}) {
		t.Errorf("a sealer: %v, code %d", run, code)
	}
	for _, r := range [][2]int{{0, 600}, {1, 3}, {500, 600}} {
		if b, code := extent.Read(new(sheaf.Sheaf), w.s, y.from, y.what, y.run, r[0], r[1]); code != api.ErrRange || b != nil {
			t.Errorf("a sheaf: %d bytes, code %d", len(b), code)
		}
		if b, code := extent.Read(w.h, new(seal.Sealer), y.from, y.what, y.run, r[0], r[1]); code == api.OK || b != nil {
			t.Errorf("a sealer: %d bytes, code %d", len(b), code)
		}
	}
	w.check(t)
}
