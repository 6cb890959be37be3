package extent_test

import (
	"bytes"
	"math"
	"slices"
	"testing"

	"deedbox/api"
	"deedbox/extent"
	"deedbox/seal"
	"deedbox/sheaf"
)

// edges is bytes of a text of so many at which a read may begin or end: those about the ends of pieces, and its own.
func edges(size int) []int {
	var l []int
	for _, at := range []int{0, 1, 2, 250, 494, 495, 496, 497, 498, 700, 991, 992, 993, 1487, 1488, 1489, size - 1, size} {
		if at >= 0 && at <= size {
			l = append(l, at)
		}
	}
	slices.Sort(l)
	return slices.Compact(l)
}

// covers is the reads that the disk is to see for bytes of a text: a block each that has one of them, found byte by byte.
func covers(r extent.Run, lo, hi int) []api.Touch {
	var l []api.Touch
	if r.Size == 0 {
		return []api.Touch{{Kind: api.TouchRead, At: r.At}}
	}
	for i := range r.Blocks() {
		for at := lo; at < hi; at++ {
			if at/496 == i {
				l = append(l, api.Touch{Kind: api.TouchRead, At: r.At + i})
				break
			}
		}
	}
	return l
}

// TestRead: 20.2, each row of bytes that begins and ends at an edge: these are read, and just the blocks that cover them.
func TestRead(t *testing.T) {
	for _, ideal := range kinds() {
		w := made(t, 120, ideal)
		for i, size := range sizes() {
			w.put(t, size, i)
		}
		for _, y := range w.texts {
			for _, lo := range edges(y.run.Size) {
				for _, hi := range edges(y.run.Size) {
					seen := len(w.d.Seen())
					if lo > hi {
						w.refuses(t, y, lo, hi, api.ErrRange)
						continue
					}
					w.reads(t, y, lo, hi)
					if l := w.touched(seen); !slices.EqualFunc(l, covers(y.run, lo, hi), sameTouch) {
						t.Errorf("ideal %t: bytes %d up to %d of %v: the disk saw %v", ideal, lo, hi, y.run, l)
					}
				}
			}
		}
		w.check(t)
	}
}

// TestAll: 20.2, Read of all of it: each block is read, once; of a text without bytes its one block.
func TestAll(t *testing.T) {
	for _, ideal := range kinds() {
		w := made(t, 120, ideal)
		for i, size := range sizes() {
			w.put(t, size, i)
		}
		for _, y := range w.texts {
			seen := len(w.d.Seen())
			if b, code := w.all(y); code != api.OK || !bytes.Equal(b, y.bytes) {
				t.Errorf("%v: %d bytes, code %d", y.run, len(b), code)
			}
			var want []api.Touch
			for i := range blocksOf(y.run.Size) {
				want = append(want, api.Touch{Kind: api.TouchRead, At: y.run.At + i})
			}
			if l := w.touched(seen); !slices.EqualFunc(l, want, sameTouch) {
				t.Errorf("%v: the disk saw %v", y.run, l)
			}
		}
	}
}

// TestReadEachByte: 20.2, each byte alone, and each row of three.
func TestReadEachByte(t *testing.T) {
	w := made(t, 40, true)
	y := w.put(t, 1100, 5)
	for lo := range 1100 {
		w.reads(t, y, lo, lo+1)
		w.reads(t, y, lo, min(lo+3, 1100))
	}
}

// TestReadArg: 20.2 and R6, without a sheaf, or without a sealer, whatever else is wrong.
func TestReadArg(t *testing.T) {
	w := made(t, 40, true)
	y := w.put(t, 600, 1)
	steps := w.p.Steps()
	for _, r := range []struct {
		h *sheaf.Sheaf
		s *seal.Sealer
	}{{nil, w.s}, {w.h, nil}, {nil, nil}} {
		for _, part := range [][2]int{{0, 600}, {0, 0}, {-1, 3}, {3, 2}, {0, 601}} {
			if b, code := extent.Read(r.h, r.s, y.from, y.what, y.run, part[0], part[1]); code != api.ErrArg || b != nil {
				t.Errorf("%v: %d bytes, code %d", part, len(b), code)
			}
		}
		for _, run := range []extent.Run{y.run, {}, {At: -1, Size: -1}} {
			if b, code := extent.All(r.h, r.s, y.from, y.what, run); code != api.ErrArg || b != nil {
				t.Errorf("all of %v: %d bytes, code %d", run, len(b), code)
			}
		}
	}
	if w.p.Steps() != steps {
		t.Errorf("%d steps", w.p.Steps()-steps)
	}
}

// TestReadRange: 20.2 and R6, bytes that there are not: nothing is read, though nothing could be.
func TestReadRange(t *testing.T) {
	for _, ideal := range kinds() {
		w := made(t, 60, ideal)
		for i, size := range []int{0, 1, 496, 600, 1488} {
			w.put(t, size, i)
		}
		w.p.Fuse(0, false)
		w.d.Flush()
		for _, y := range w.texts {
			size, steps := y.run.Size, w.p.Steps()
			for _, part := range [][2]int{
				{-1, 0}, {-1, size}, {-1, -1}, {-2, -1}, {-500, 500}, {math.MinInt, 0}, {math.MinInt, math.MaxInt}, {math.MinInt, math.MinInt},
				{0, size + 1}, {size, size + 1}, {size + 1, size + 1}, {size + 1, size}, {size + 1, 0}, {0, size + 496}, {0, math.MaxInt}, {math.MaxInt, math.MaxInt},
				{1, 0}, {size, -1}, {0, -1}, {math.MaxInt, 0}, {0, math.MinInt},
			} {
				w.refuses(t, y, part[0], part[1], api.ErrRange)
			}
			if w.p.Steps() != steps {
				t.Errorf("%v: %d steps", y.run, w.p.Steps()-steps)
			}
		}
	}
}

// TestReadNothing: 20.2, no bytes of a text that has some: no block covers them, so none is read, whatever stands there, with or without power; of a text without bytes its one block is.
func TestReadNothing(t *testing.T) {
	for _, ideal := range kinds() {
		w := made(t, 60, ideal)
		y, none := w.put(t, 1000, 1), w.put(t, 0, 2)
		for i := range 3 {
			w.d.Poke(api.Poke{At: y.run.At + i, Bytes: row(512, 1)})
		}
		for _, gone := range []bool{false, true} {
			if gone {
				w.p.Fuse(0, false)
				w.d.Flush()
			}
			steps := w.p.Steps()
			for _, at := range edges(1000) {
				w.reads(t, y, at, at)
			}
			if w.p.Steps() != steps {
				t.Errorf("%d steps", w.p.Steps()-steps)
			}
			if gone {
				w.refuses(t, none, 0, 0, api.ErrDown)
			} else {
				w.reads(t, none, 0, 0)
			}
		}
		w.p.Back()
		was := w.d.Look(none.run.At)
		for bit := range 512 * 8 {
			if bit%61 == 0 || bit < 128 {
				b := bytes.Clone(was)
				b[bit/8] ^= 1 << (bit % 8)
				w.d.Poke(api.Poke{At: none.run.At, Bytes: b})
				w.refuses(t, none, 0, 0, api.ErrIntegrity)
			}
		}
		w.d.Poke(api.Poke{At: none.run.At, Bytes: was})
		w.reads(t, none, 0, 0)
	}
}

// TestReadDown: 20.2, the power goes at each block that is read: just those ahead of it are.
func TestReadDown(t *testing.T) {
	for _, ideal := range kinds() {
		w := made(t, 60, ideal)
		for i, size := range sizes() {
			if size > 2000 {
				continue
			}
			y := w.put(t, size, i)
			for _, lo := range edges(size) {
				n := len(covers(y.run, lo, size))
				for step := range n {
					seen := len(w.d.Seen())
					w.p.Fuse(step, false)
					w.refuses(t, y, lo, size, api.ErrDown)
					if l := w.touched(seen); !slices.EqualFunc(l, covers(y.run, lo, size)[:step], sameTouch) {
						t.Errorf("%v from %d on, step %d: the disk saw %v", y.run, lo, step, l)
					}
					w.p.Back()
				}
				w.reads(t, y, lo, size)
			}
		}
	}
}

// TestReadFirstCode: 20.2 and R6, each block is opened ahead of reading the next one: the first one that is wrong ends the call.
func TestReadFirstCode(t *testing.T) {
	for _, ideal := range kinds() {
		for i := range 5 {
			w := made(t, 40, ideal)
			y := w.put(t, 5*496, 1)
			w.d.Poke(api.Poke{At: y.run.At + i, Bytes: row(512, 1)})
			seen := len(w.d.Seen())
			w.p.Fuse(i+1, false)
			w.refuses(t, y, 0, 5*496, api.ErrIntegrity)
			if n := len(w.touched(seen)); n != i+1 || w.p.Down() {
				t.Errorf("block %d: %d were read", i, n)
			}
			w.p.Fuse(i, false)
			w.refuses(t, y, 0, 5*496, api.ErrDown)
			w.p.Back()
			for j := range 5 {
				if j != i {
					w.reads(t, y, 496*j, 496*j+496)
				} else {
					w.refuses(t, y, 496*j+495, 496*j+496, api.ErrIntegrity)
					w.refuses(t, y, 496*j, 496*j+1, api.ErrIntegrity)
				}
			}
		}
	}
}

// TestReadOther: 20.2, under another key, as another thing, at another place, or as a text of other bytes, it is not right.
func TestReadOther(t *testing.T) {
	for _, ideal := range kinds() {
		w := made(t, 60, ideal)
		first := w.put(t, 600, 3)
		y := w.put(t, 600, 1)
		for _, from := range [][]byte{nil, fromOf(2), fromOf(3), fromOf(1)[:31], append(fromOf(1), 0), w.s.Derive(y.from, []byte("chunk"), y.what)} {
			w.refuses(t, text{from, y.what, nil, y.run}, 0, 600, api.ErrIntegrity)
		}
		for _, what := range [][]byte{nil, []byte("x"), append(row(1, 1), 0), first.what} {
			if !bytes.Equal(what, y.what) {
				w.refuses(t, text{y.from, what, nil, y.run}, 1, 3, api.ErrIntegrity)
			}
		}
		for _, at := range []int{0, 1, 23, 24, 25, 27, 28, 59} {
			w.refuses(t, text{y.from, y.what, nil, extent.Run{At: at, Size: 600}}, 1, 3, api.ErrIntegrity)
		}
		for _, at := range []int{-1, -26, 60, 61, math.MinInt, math.MaxInt, math.MaxInt - 1} {
			w.refuses(t, text{y.from, y.what, nil, extent.Run{At: at, Size: 600}}, 1, 3, api.ErrRange)
			w.refuses(t, text{y.from, y.what, nil, extent.Run{At: at, Size: 0}}, 0, 0, api.ErrRange)
		}
		for _, size := range []int{1, 495, 496, 497, 599, 601, 992, 993, 1488} {
			w.refuses(t, text{y.from, y.what, nil, extent.Run{At: y.run.At, Size: size}}, 0, size, api.ErrIntegrity)
		}
		w.check(t)
	}
}

// TestReadNoRun: P0 and R5, runs that Write never told: each call ends, with a code where there are no such bytes.
func TestReadNoRun(t *testing.T) {
	w := made(t, 60, true)
	y := w.put(t, 600, 1)
	for _, run := range []extent.Run{{Size: -1}, {At: 24, Size: -1}, {At: 24, Size: -600}, {At: 24, Size: math.MinInt}, {At: math.MinInt, Size: math.MinInt}} {
		for _, part := range [][2]int{{0, 0}, {0, 600}, {-1, -1}, {run.Size, run.Size}, {0, run.Size}} {
			w.refuses(t, text{y.from, y.what, nil, run}, part[0], part[1], api.ErrRange)
		}
		if b, code := extent.All(w.h, w.s, y.from, y.what, run); code != api.ErrRange || b != nil {
			t.Errorf("all of %v: %d bytes, code %d", run, len(b), code)
		}
	}
	for _, size := range []int{1<<20 + 1, 1 << 31, 1 << 40, math.MaxInt} {
		for _, at := range []int{0, 24, 59, math.MaxInt, math.MinInt} {
			run := extent.Run{At: at, Size: size}
			for _, part := range [][2]int{{0, size}, {1, 3}, {size - 1, size}, {size / 2, size/2 + 1}} {
				if b, code := w.read(text{y.from, y.what, nil, run}, part[0], part[1]); code == api.OK || b != nil {
					t.Errorf("%v: %d bytes, code %d", run, len(b), code)
				}
			}
		}
	}
	w.check(t)
}

// TestReadWithin: 20.2, texts are read while others are written in a change that is still open, and behind one that was left alone.
func TestReadWithin(t *testing.T) {
	for _, ideal := range kinds() {
		w := made(t, 60, ideal)
		w.put(t, 1000, 1)
		for round := range 3 {
			x := w.begin(t)
			w.write(t, x, fromOf(10+round), nil, row(1500, 2))
			extent.Free(x, w.texts[0].run)
			w.check(t)
		}
		w.put(t, 700, 4)
		w.check(t)
		w.open(t)
		w.check(t)
	}
}
