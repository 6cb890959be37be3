package redo_test

import (
	"bytes"
	"math"
	"testing"

	"deedbox/api"
	"deedbox/disk"
	"deedbox/redo"
	"deedbox/seal"
	"deedbox/tape"
)

// inLog is images as they are to stand in the log, the head behind them.
func inLog(head []byte, l []api.Image) []api.Image {
	var out []api.Image
	for i, x := range l {
		out = append(out, api.Image{Page: i + 1, Block: x.Block})
	}
	return append(out, api.Image{Page: 0, Block: full(head)})
}

// TestWriteForReal: 16.1, 16.2 and P5, of each number of images, and of each epoch: the head is what the standard has, with noughts behind, in block 0, the images from block 1 on, and that in order, and flushed; no other block is touched.
func TestWriteForReal(t *testing.T) {
	s := seal.New(false)
	for n := range redo.Most + 1 {
		for i, epoch := range epochs() {
			d, _ := newDisk(t, 64)
			for at := range 64 {
				put(d, at, row(512, uint32(at+9000)))
			}
			want := state(d)
			l, key := images(n, uint32(i)), keyOf(uint32(n))
			head := library(t, key).Seal(nil, nonceOf(epoch), headOf(n, pagesOf(l)...), besideOf(epoch))
			notes(t, d, s, key, epoch, l)
			for _, x := range inLog(head, l) {
				want[x.Page] = x.Block
			}
			checkSeen(t, d, 0, touches(inLog(head, l)...), 0)
			checkState(t, d, want)
			d.Crash(nil)
			checkState(t, d, want)
		}
	}
	tells(t, s, (redo.Most+1)*len(epochs()), false)
}

// TestWriteIdeally: 16.1 and P3, the head is noise of its length, and hangs on nothing else; one is sealed a call.
func TestWriteIdeally(t *testing.T) {
	s, calls := seal.New(true), 0
	for n := range redo.Most + 1 {
		for i, epoch := range epochs() {
			d, _ := newDisk(t, 64)
			l := images(n, uint32(i))
			notes(t, d, s, keyOf(uint32(n)), epoch, l)
			calls++
			head := tape.Noise(uint64(calls), 18+2*n)
			checkSeen(t, d, 0, touches(inLog(head, l)...), 0)
		}
	}
	tells(t, s, calls, false)
}

// TestWriteIntoTheBook: 16.1, the sealer itself opens the head, under that key and nonce, with that beside, and not so otherwise.
func TestWriteIntoTheBook(t *testing.T) {
	for _, s := range kinds() {
		for _, epoch := range epochs() {
			d, _ := newDisk(t, 64)
			l := images(3, 4)
			notes(t, d, s, keyOf(1), epoch, l)
			sealed := d.Look(0)[:24]
			if got, code := s.Open(keyOf(1), nonceOf(epoch), besideOf(epoch), sealed); code != api.OK || !bytes.Equal(got, headOf(3, pagesOf(l)...)) {
				t.Errorf("ideal %t: epoch %d: %x, code %d", s.Ideal(), epoch, got, code)
			}
			for _, low := range []uint32{0, 24, 1<<32 - 2} {
				if _, code := s.Open(keyOf(1), seal.Nonce(uint64(epoch), low), besideOf(epoch), sealed); code != api.ErrIntegrity {
					t.Errorf("ideal %t: epoch %d: opens by another nonce, code %d", s.Ideal(), epoch, code)
				}
			}
		}
	}
}

// TestWritePages: 16.2, each page from 0 to MaxBlocks - 1 can be noted, whether the disk has such a block or not, and those of the log, too.
func TestWritePages(t *testing.T) {
	s, d := seal.New(true), (*disk.Disk)(nil)
	for page := 0; page < api.MaxBlocks; page++ {
		if page%256 == 0 {
			d, _ = newDisk(t, 24)
		}
		l := []api.Image{{Page: page, Block: row(512, uint32(page))}, {Page: api.MaxBlocks - 1 - page, Block: row(512, 3)}}
		notes(t, d, s, keyOf(1), page, l)
		has(t, d, s, keyOf(1), page, l)
	}
}

// TestWriteOver: 16.2, what stood in block 0 is gone, behind the head, too; blocks behind the last image stay as they were.
func TestWriteOver(t *testing.T) {
	for _, s := range kinds() {
		d, _ := newDisk(t, 64)
		long, short := images(23, 1), images(2, 2)
		put(d, 0, bytes.Repeat([]byte{255}, 512))
		notes(t, d, s, keyOf(1), 1, long)
		if b := d.Look(0); !bytes.Equal(b[64:], make([]byte, 448)) {
			t.Errorf("ideal %t: not noughts behind the head: %x", s.Ideal(), b[64:])
		}
		want := state(d)
		notes(t, d, s, keyOf(1), 2, short)
		if b := d.Look(0); !bytes.Equal(b[22:], make([]byte, 490)) || bytes.Equal(b[:22], want[0][:22]) {
			t.Errorf("ideal %t: not a head and noughts: %x", s.Ideal(), b)
		}
		want[0], want[1], want[2] = d.Look(0), short[0].Block, short[1].Block
		checkState(t, d, want)
		has(t, d, s, keyOf(1), 2, short)
		for n := range redo.Most + 1 {
			refuses(t, d, s, keyOf(1), 1, n, api.ErrIntegrity)
		}
		tells(t, s, 2, false)
	}
}

// untouched holds that no step was done, and nothing sealed.
func untouched(t *testing.T, d *disk.Disk, s *seal.Sealer) {
	t.Helper()
	if d.Steps() != 0 || len(d.Seen()) != 0 || d.Loose() != 0 {
		t.Errorf("%d steps, %d seen, %d wait", d.Steps(), len(d.Seen()), d.Loose())
	}
	tells(t, s, 0, false)
}

// wrongImages is images of which one can't be noted, at each place of up to five, and at the last one that there may be.
func wrongImages() [][]api.Image {
	var wrong []api.Image
	for _, page := range []int{-1, -2, -4096, -65536, math.MinInt, 4096, 4097, 65535, 65536, 65560, 1 << 32, math.MaxInt} {
		wrong = append(wrong, api.Image{Page: page, Block: row(512, 1)})
	}
	for _, n := range []int{0, 1, 16, 496, 511, 513, 1024} {
		wrong = append(wrong, api.Image{Page: 30, Block: row(n, 1)})
	}
	wrong = append(wrong, api.Image{}, api.Image{Page: -1}, api.Image{Page: 4096, Block: row(511, 1)})
	var out [][]api.Image
	for _, x := range wrong {
		for _, n := range []int{1, 2, 5, 23} {
			for i := range n {
				l := images(n, 1)
				l[i] = x
				out = append(out, l)
			}
		}
	}
	return out
}

// manyImages is more than there may be, right and wrong ones.
func manyImages() [][]api.Image {
	out := [][]api.Image{images(24, 1), images(25, 1), images(200, 1), images(65536, 1), make([]api.Image, 24), make([]api.Image, 65536+3)}
	for _, i := range []int{0, 22, 23} {
		l := images(24, 1)
		l[i].Page = -1
		out = append(out, l)
	}
	return out
}

func wrongKeys() [][]byte {
	return [][]byte{nil, row(1, 1), row(16, 1), row(31, 1), row(33, 1), row(64, 1)}
}

// TestWriteArg: 16.2 and R6, without a disk, or a sealer, or of an epoch below 0: ErrArg ahead of all else, and nothing is done.
func TestWriteArg(t *testing.T) {
	lists := [][]api.Image{nil, images(1, 1), images(23, 1), images(24, 1), {{Page: -1}}, {{Page: 30, Block: row(511, 1)}}}
	for _, s := range kinds() {
		d, p := newDisk(t, 64)
		for i, l := range lists {
			for _, key := range append(wrongKeys(), keyOf(1)) {
				for _, epoch := range append(epochs(), -1, math.MinInt) {
					if code := redo.Write(nil, s, key, epoch, l); code != api.ErrArg {
						t.Errorf("no disk, list %d, epoch %d: code %d", i, epoch, code)
					}
					if code := redo.Write(d, nil, key, epoch, l); code != api.ErrArg {
						t.Errorf("no sealer, list %d, epoch %d: code %d", i, epoch, code)
					}
					if code := redo.Write(nil, nil, key, epoch, l); code != api.ErrArg {
						t.Errorf("neither, list %d, epoch %d: code %d", i, epoch, code)
					}
				}
				for _, epoch := range []int{-1, -2, -256, -1 << 32, math.MinInt} {
					if code := redo.Write(d, s, key, epoch, l); code != api.ErrArg {
						t.Errorf("list %d, epoch %d: code %d", i, epoch, code)
					}
				}
			}
		}
		untouched(t, d, s)
		p.Fuse(0, true)
		d.Flush()
		if code := redo.Write(d, s, nil, -1, manyImages()[0]); code != api.ErrArg {
			t.Errorf("the power gone: code %d", code)
		}
	}
}

// TestWriteFull: 16.2 and R6, above 23 images: ErrFull, ahead of ErrSize, of images or of the key, and nothing is done; 23 are noted.
func TestWriteFull(t *testing.T) {
	for _, s := range kinds() {
		d, p := newDisk(t, 64)
		for i, l := range manyImages() {
			for _, key := range append(wrongKeys(), keyOf(1)) {
				if code := redo.Write(d, s, key, 1, l); code != api.ErrFull {
					t.Errorf("list %d of %d images: code %d", i, len(l), code)
				}
			}
		}
		untouched(t, d, s)
		notes(t, d, s, keyOf(1), 1, images(24, 1)[:23])
		p.Fuse(0, true)
		d.Flush()
		if code := redo.Write(d, s, keyOf(1), 2, images(24, 1)); code != api.ErrFull {
			t.Errorf("the power gone: code %d", code)
		}
	}
}

// TestWriteSize: 16.2 and R6, a wrong page, or a block that is none, at each place: ErrSize, and nothing is done, whether there is power or not.
func TestWriteSize(t *testing.T) {
	for _, s := range kinds() {
		d, p := newDisk(t, 64)
		for _, l := range wrongImages() {
			if code := redo.Write(d, s, keyOf(1), 1, l); code != api.ErrSize {
				t.Errorf("of %d images, pages %v: code %d", len(l), pagesOf(l), code)
			}
		}
		untouched(t, d, s)
		p.Fuse(0, true)
		d.Flush()
		for _, l := range wrongImages() {
			if code := redo.Write(d, s, keyOf(1), 1, l); code != api.ErrSize {
				t.Errorf("the power gone: of %d images, pages %v: code %d", len(l), pagesOf(l), code)
			}
		}
	}
}

// TestWriteKeys: 16.2, a key that has not 32 bytes is the sealer's ErrSize, ahead of the disk's codes: nothing is written.
func TestWriteKeys(t *testing.T) {
	for _, s := range kinds() {
		d, p := newDisk(t, 64)
		for _, key := range wrongKeys() {
			for _, n := range []int{0, 1, 23} {
				if code := redo.Write(d, s, key, 1, images(n, 1)); code != api.ErrSize {
					t.Errorf("ideal %t: a key of %d bytes, %d images: code %d", s.Ideal(), len(key), n, code)
				}
			}
		}
		untouched(t, d, s)
		p.Fuse(0, true)
		d.Flush()
		if code := redo.Write(d, s, nil, 1, images(1, 1)); code != api.ErrSize {
			t.Errorf("ideal %t: the power gone: code %d", s.Ideal(), code)
		}
	}
}

// TestOfNobody: a sealer, or a disk, that was not made by New: some code, no panic, and nothing is written.
func TestOfNobody(t *testing.T) {
	d, _ := newDisk(t, 64)
	if code := redo.Write(d, new(seal.Sealer), keyOf(1), 1, images(2, 1)); code == api.OK {
		t.Error("noted by no sealer")
	}
	if code := redo.Write(new(disk.Disk), seal.New(true), keyOf(1), 1, images(2, 1)); code == api.OK {
		t.Error("noted on no disk")
	}
	if l, code := redo.Read(d, new(seal.Sealer), keyOf(1), 1, 2); code == api.OK || len(l) != 0 {
		t.Errorf("%d images, code %d", len(l), code)
	}
	if l, code := redo.Read(new(disk.Disk), seal.New(true), keyOf(1), 1, 2); code != api.ErrRange || len(l) != 0 {
		t.Errorf("%d images, code %d", len(l), code)
	}
	if code := redo.Apply(new(disk.Disk), images(2, 1)); code != api.ErrRange {
		t.Errorf("code %d", code)
	}
	if code := redo.Apply(new(disk.Disk), nil); code != api.ErrDown {
		t.Errorf("code %d", code)
	}
	if d.Loose() != 0 {
		t.Errorf("%d writes wait", d.Loose())
	}
}

// TestWriteSmallDisk: 16.2, of a disk that has not a block for each image the first one that is not there tells: those ahead of it are written, and wait; the head is not, and nothing is flushed.
func TestWriteSmallDisk(t *testing.T) {
	for _, s := range kinds() {
		for size := 1; size <= 25; size++ {
			for n := range redo.Most + 1 {
				d, _ := newDisk(t, size)
				l := images(n, 1)
				code := redo.Write(d, s, keyOf(uint32(100*size+n)), 1, l)
				if n < size {
					if code != api.OK || d.Loose() != 0 {
						t.Errorf("%d images on %d blocks: code %d", n, size, code)
					}
					continue
				}
				all := touches(inLog(nil, l)...)
				if code != api.ErrRange {
					t.Errorf("%d images on %d blocks: code %d", n, size, code)
				}
				checkSeen(t, d, 0, all[:size-1], size-1)
			}
		}
	}
}

// TestWritePower: 16.2, the power goes at each step, what is atomic in it done or not: ErrDown, and nothing behind that is done; one that has gone ahead: nothing at all.
func TestWritePower(t *testing.T) {
	for _, n := range []int{0, 1, 2, 7, 23} {
		for step := range n + 2 {
			for _, done := range []bool{false, true} {
				s := seal.New(true)
				d, p := newDisk(t, 64)
				l := images(n, 1)
				p.Fuse(step, done)
				if code := redo.Write(d, s, keyOf(1), 1, l); code != api.ErrDown {
					t.Errorf("%d images, step %d: code %d", n, step, code)
				}
				all, did := touches(inLog(tape.Noise(1, 18+2*n), l)...), step
				if done {
					did++
				}
				loose := did
				if did == len(all) {
					loose = 0
				}
				checkSeen(t, d, 0, all[:did], loose)
				if d.Steps() != step+1 {
					t.Errorf("%d steps; want %d", d.Steps(), step+1)
				}
				if code := redo.Write(d, s, keyOf(1), 2, l); code != api.ErrDown {
					t.Errorf("%d images, the power gone: code %d", n, code)
				}
				checkSeen(t, d, 0, all[:did], loose)
			}
		}
	}
}

// TestWriteReused: P6, of an epoch one head alone is sealed under a key: the same one again is no other thing, one of other pages is; other epochs have nonces of their own.
func TestWriteReused(t *testing.T) {
	for _, s := range kinds() {
		d, _ := newDisk(t, 64)
		for epoch := range 50 {
			notes(t, d, s, keyOf(1), epoch, images(epoch%24, uint32(epoch)))
		}
		notes(t, d, s, keyOf(1), 7, images(7, 7))
		tells(t, s, 51, false)
		notes(t, d, s, keyOf(1), 7, images(7, 8))
		tells(t, s, 52, true)
	}
}
