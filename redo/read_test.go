package redo_test

import (
	"math"
	"testing"

	"deedbox/api"
	"deedbox/disk"
	"deedbox/redo"
	"deedbox/seal"
)

// heads puts a head into block 0 that the tests made, whatever it says.
func heads(t *testing.T, d *disk.Disk, s *seal.Sealer, key, nonce, beside, head []byte) {
	t.Helper()
	b, code := s.Seal(key, nonce, beside, head)
	if code != api.OK {
		t.Fatalf("a head of %d bytes: code %d", len(head), code)
	}
	put(d, 0, b)
}

// turned is bytes with one bit turned.
func turned(b []byte, bit int) []byte {
	out := append([]byte{}, b...)
	out[bit/8] ^= 1 << (bit % 8)
	return out
}

// TestRead: 16.3, of each number of images, and of each epoch: what was noted, and just block 0 and so many behind it are read, in order.
func TestRead(t *testing.T) {
	for _, s := range kinds() {
		for n := range redo.Most + 1 {
			for i, epoch := range epochs() {
				d, _ := newDisk(t, 64)
				l := images(n, uint32(i))
				notes(t, d, s, keyOf(uint32(n)), epoch, l)
				has(t, d, s, keyOf(uint32(n)), epoch, l)
				checkSeen(t, d, n+2, reads(n+1), 0)
				has(t, d, s, keyOf(uint32(n)), epoch, l)
			}
		}
	}
}

// TestReadOfHand: 16.1 and 16.3, heads and blocks that the tests laid down byte by byte are read; for real Go's own library seals them.
func TestReadOfHand(t *testing.T) {
	s := seal.New(false)
	for n := range redo.Most + 1 {
		for i, epoch := range epochs() {
			d, _ := newDisk(t, 64)
			l, key := images(n, uint32(i)), keyOf(uint32(n))
			put(d, 0, library(t, key).Seal(nil, nonceOf(epoch), headOf(n, pagesOf(l)...), besideOf(epoch)))
			for j, x := range l {
				put(d, j+1, x.Block)
			}
			has(t, d, s, key, epoch, l)
		}
	}
}

// TestReadArg: 16.3 and R6, without a disk, or a sealer, of an epoch below 0, or of a number of images that there can't be: ErrArg ahead of all else, and nothing is read.
func TestReadArg(t *testing.T) {
	for _, s := range kinds() {
		d, p := newDisk(t, 64)
		for _, key := range append(wrongKeys(), keyOf(1)) {
			for _, n := range []int{0, 1, 23, -1, 24, math.MinInt, math.MaxInt} {
				for _, epoch := range append(epochs(), -1, math.MinInt) {
					refuses(t, nil, s, key, epoch, n, api.ErrArg)
					refuses(t, d, nil, key, epoch, n, api.ErrArg)
					refuses(t, nil, nil, key, epoch, n, api.ErrArg)
				}
				for _, epoch := range []int{-1, -2, -256, -1 << 32, math.MinInt} {
					refuses(t, d, s, key, epoch, n, api.ErrArg)
				}
			}
			for _, n := range []int{-1, -2, -9, -10, -23, -1 << 32, math.MinInt, 24, 25, 247, 248, 65536, math.MaxInt/2 + 1, math.MaxInt} {
				for _, epoch := range epochs() {
					refuses(t, d, s, key, epoch, n, api.ErrArg)
				}
			}
		}
		untouched(t, d, s)
		p.Fuse(0, true)
		d.Flush()
		refuses(t, d, s, nil, 1, 24, api.ErrArg)
		refuses(t, d, s, nil, 1, -1, api.ErrArg)
		refuses(t, d, s, nil, -1, 2, api.ErrArg)
	}
}

// TestReadKeys: 16.3, a key that has not 32 bytes is the sealer's ErrSize, behind the read of block 0 and its code.
func TestReadKeys(t *testing.T) {
	for _, s := range kinds() {
		for _, key := range wrongKeys() {
			for _, n := range []int{0, 1, 2, 23} {
				d, p := newDisk(t, 64)
				notes(t, d, s, keyOf(1), 1, images(2, 1))
				refuses(t, d, s, key, 1, n, api.ErrSize)
				checkSeen(t, d, 4, reads(1), 0)
				p.Fuse(0, true)
				refuses(t, d, s, key, 1, n, api.ErrDown)
				refuses(t, d, s, key, 1, n, api.ErrDown)
			}
		}
	}
}

// TestReadPower: 16.3, the power goes at each of the reads, what is atomic in it done or not: ErrDown, no images, and nothing is read behind that.
func TestReadPower(t *testing.T) {
	for _, n := range []int{0, 1, 2, 7, 23} {
		for step := range n + 1 {
			for _, done := range []bool{false, true} {
				s, l := seal.New(true), images(n, 1)
				d, p := newDisk(t, 64)
				notes(t, d, s, keyOf(1), 1, l)
				p.Fuse(step, done)
				refuses(t, d, s, keyOf(1), 1, n, api.ErrDown)
				did := step
				if done {
					did++
				}
				checkSeen(t, d, n+2, reads(did), 0)
				refuses(t, d, s, keyOf(1), 1, n, api.ErrDown)
				checkSeen(t, d, n+2, reads(did), 0)
				p.Back()
				has(t, d, s, keyOf(1), 1, l)
			}
		}
	}
}

// TestReadSmallDisk: 16.3, the head says more pages than there are blocks behind it: ErrRange, and no images.
func TestReadSmallDisk(t *testing.T) {
	for _, s := range kinds() {
		for size := 1; size <= 25; size++ {
			for n := range redo.Most + 1 {
				d, _ := newDisk(t, size)
				key := keyOf(uint32(100*size + n))
				heads(t, d, s, key, nonceOf(1), besideOf(1), headOf(n, make([]int, n)...))
				got, code := redo.Read(d, s, key, 1, n)
				if n < size {
					if code != api.OK || len(got) != n {
						t.Errorf("%d pages of %d blocks: %d images, code %d", n, size, len(got), code)
					}
					continue
				}
				if code != api.ErrRange || len(got) != 0 {
					t.Errorf("%d pages of %d blocks: %d images, code %d", n, size, len(got), code)
				}
				checkSeen(t, d, 0, reads(size), 0)
			}
		}
	}
}

// TestReadOfOthersCount: 16.3, what was noted is read as so many alone: as fewer or more it does not open, and no image is read.
func TestReadOfOthersCount(t *testing.T) {
	for _, s := range kinds() {
		for n := range redo.Most + 1 {
			d, _ := newDisk(t, 64)
			l := images(n, 1)
			notes(t, d, s, keyOf(1), n, l)
			for m := range redo.Most + 1 {
				if m != n {
					behind := len(d.Seen())
					refuses(t, d, s, keyOf(1), n, m, api.ErrIntegrity)
					checkSeen(t, d, behind, reads(1), 0)
				}
			}
			has(t, d, s, keyOf(1), n, l)
		}
		tells(t, s, 24, false)
	}
}

// TestReadHeadSaysOther: 16.3, a head that opens, and has the bytes of n pages, but does not say n: ErrIntegrity, and no image is read.
func TestReadHeadSaysOther(t *testing.T) {
	for _, s := range kinds() {
		for n := range redo.Most + 1 {
			for i, says := range []int{0, 1, 2, 22, 23, 24, 255, 256, 256 + n, n << 8, 65535, n ^ 1, n + 1, n - 1} {
				if uint16(says) == uint16(n) {
					continue
				}
				d, _ := newDisk(t, 64)
				key := keyOf(uint32(100*n + i))
				heads(t, d, s, key, nonceOf(1), besideOf(1), headOf(says, pagesOf(images(n, 1))...))
				refuses(t, d, s, key, 1, n, api.ErrIntegrity)
				checkSeen(t, d, 0, reads(1), 0)
			}
		}
		tells(t, s, s.Sealed(), false)
	}
}

// TestReadPagesAsSaid: 16.3, the images are of the pages that the head says, whichever these are, and of the blocks as they stand.
func TestReadPagesAsSaid(t *testing.T) {
	pages := []int{0, 1, 23, 24, 255, 256, 257, 4095, 4096, 32768, 65535, 7, 7}
	for _, s := range kinds() {
		d, _ := newDisk(t, 24)
		var want []api.Image
		for i, page := range pages {
			put(d, i+1, row(512, uint32(i)))
			want = append(want, api.Image{Page: page, Block: row(512, uint32(i))})
		}
		heads(t, d, s, keyOf(1), nonceOf(9), besideOf(9), headOf(len(pages), pages...))
		has(t, d, s, keyOf(1), 9, want)
	}
}

// TestReadHeadElsewise: 16.1 and 16.3, a head of another nonce, or with something else beside, is none.
func TestReadHeadElsewise(t *testing.T) {
	for _, s := range kinds() {
		d, _ := newDisk(t, 64)
		head := headOf(2, 30, 31)
		for _, nonce := range [][]byte{seal.Nonce(5, 0), seal.Nonce(5, 1<<32-2), seal.Nonce(5, 1<<31), seal.Nonce(1<<32-1, 5), seal.Nonce(6, 1<<32-1)} {
			heads(t, d, s, keyOf(1), nonce, besideOf(5), head)
			refuses(t, d, s, keyOf(1), 5, 2, api.ErrIntegrity)
		}
		for _, beside := range [][]byte{nil, besideOf(6), []byte("log"), besideOf(5)[:14], besideOf(5)[7:], append(besideOf(5), 0), turned(besideOf(5), 0), turned(besideOf(5), 40)} {
			heads(t, d, s, keyOf(1), nonceOf(5), beside, head)
			refuses(t, d, s, keyOf(1), 5, 2, api.ErrIntegrity)
		}
		heads(t, d, s, keyOf(1), nonceOf(5), besideOf(5), head)
		if l, code := redo.Read(d, s, keyOf(1), 5, 2); code != api.OK || len(l) != 2 {
			t.Errorf("ideal %t: %d images, code %d", s.Ideal(), len(l), code)
		}
	}
}

// TestReadTurned: 16.3, each bit of the sealed head counts; what stands behind it does not.
func TestReadTurned(t *testing.T) {
	for _, s := range kinds() {
		for _, n := range []int{0, 1, 23} {
			d, _ := newDisk(t, 64)
			l := images(n, 1)
			notes(t, d, s, keyOf(1), n, l)
			was := d.Look(0)
			for bit := range 512 * 8 {
				put(d, 0, turned(was, bit))
				if bit < 8*(18+2*n) {
					refuses(t, d, s, keyOf(1), n, n, api.ErrIntegrity)
				} else if bit%61 == 0 {
					has(t, d, s, keyOf(1), n, l)
				}
			}
		}
	}
}

// TestReadImagesAsTheyStand: 16.3, the log's blocks are told as they are read: whether they are right is for those to tell who sealed them.
func TestReadImagesAsTheyStand(t *testing.T) {
	for _, s := range kinds() {
		d, _ := newDisk(t, 64)
		l := images(23, 1)
		notes(t, d, s, keyOf(1), 1, l)
		for i := range l {
			b := turned(l[i].Block, 5*i)
			put(d, i+1, b)
			l[i].Block = b
			has(t, d, s, keyOf(1), 1, l)
		}
	}
}

// TestReadOfNothing: 16.3, a disk on which nothing was noted: ErrIntegrity, of noughts and of other bytes.
func TestReadOfNothing(t *testing.T) {
	for _, s := range kinds() {
		for n := range redo.Most + 1 {
			d, _ := newDisk(t, 64)
			refuses(t, d, s, keyOf(1), 0, n, api.ErrIntegrity)
			put(d, 0, row(512, uint32(n)))
			refuses(t, d, s, keyOf(1), 0, n, api.ErrIntegrity)
			put(d, 0, full(headOf(n, make([]int, n)...)))
			refuses(t, d, s, keyOf(1), 0, n, api.ErrIntegrity)
		}
	}
}

// TestReadChangesNothing: 16.3, reading seals nothing, and leaves the disk as it was, what waits, too.
func TestReadChangesNothing(t *testing.T) {
	for _, s := range kinds() {
		d, _ := newDisk(t, 64)
		l := images(5, 1)
		notes(t, d, s, keyOf(1), 1, l)
		d.Write(40, row(512, 77))
		want := state(d)
		for n := range redo.Most + 1 {
			redo.Read(d, s, keyOf(1), 1, n)
			redo.Read(d, s, keyOf(1), 2, n)
		}
		checkState(t, d, want)
		if d.Loose() != 1 {
			t.Errorf("%d writes wait", d.Loose())
		}
		tells(t, s, 1, false)
	}
}

// TestReadWhatWaits: 16.3, the disk's reads count: a head and images that wait are read, too.
func TestReadWhatWaits(t *testing.T) {
	s := seal.New(true)
	d, _ := newDisk(t, 64)
	b, _ := s.Seal(keyOf(1), nonceOf(3), besideOf(3), headOf(1, 50))
	d.Write(1, row(512, 8))
	d.Write(0, full(b))
	has(t, d, s, keyOf(1), 3, []api.Image{{Page: 50, Block: row(512, 8)}})
}
