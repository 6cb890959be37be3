package redo_test

import (
	"bytes"
	"slices"
	"testing"

	"deedbox/api"
	"deedbox/redo"
	"deedbox/seal"
)

// bits is the lowest n bits of a number, as a row.
func bits(x, n int) []bool {
	var l []bool
	for i := range n {
		l = append(l, x>>i&1 == 1)
	}
	return l
}

// TestBehindAnyCrash: 16.5, what was noted is read as it was behind any crash, whatever else waited, ahead of it or behind it.
func TestBehindAnyCrash(t *testing.T) {
	for _, s := range kinds() {
		for n := range redo.Most + 1 {
			for x := range 1 << 3 {
				d, p := newDisk(t, 64)
				l, epoch := images(n, uint32(x)), 8*n+x
				d.Write(n, row(512, 50))
				d.Write(40, row(512, 51))
				notes(t, d, s, keyOf(1), epoch, l)
				for i := range 3 {
					d.Write(60+i, row(512, 52))
				}
				p.Fuse(0, x&1 == 0)
				d.Flush()
				d.Crash(bits(x, d.Loose()))
				p.Back()
				has(t, d, s, keyOf(1), epoch, l)
				d.Crash(nil)
				has(t, d, s, keyOf(1), epoch, l)
			}
		}
	}
}

// TestCrashWhileNoting: 16.5, the power goes at each step of the log of a later epoch, and each set of what waits is kept: of each epoch there is something to be read just if its head stands in block 0; what was noted wholly is read as it was.
func TestCrashWhileNoting(t *testing.T) {
	for _, n := range []int{0, 1, 2, 4} {
		for step := range n + 3 {
			for _, done := range []bool{false, true} {
				for x := range 1 << (n + 1) {
					crashWhileNoting(t, n, step, done, x)
				}
			}
		}
	}
}

func crashWhileNoting(t *testing.T, n, step int, done bool, x int) {
	t.Helper()
	s := seal.New(true)
	d, p := newDisk(t, 64)
	old, late := images(3, 1), images(n, 2)
	notes(t, d, s, keyOf(1), 1, old)
	head := d.Look(0)
	p.Fuse(step, done)
	code := redo.Write(d, s, keyOf(1), 2, late)
	flushed := step > n+1 || step == n+1 && done
	if (code == api.OK) != (step > n+1) || flushed && d.Loose() != 0 {
		t.Fatalf("%d images, step %d: code %d, %d wait", n, step, code, d.Loose())
	}
	d.Crash(bits(x, d.Loose()))
	p.Back()
	if flushed {
		has(t, d, s, keyOf(1), 2, late)
	}
	if bytes.Equal(d.Look(0), head) {
		refuses(t, d, s, keyOf(1), 2, n, api.ErrIntegrity)
		stands(t, d.Look, old)
		got, code := redo.Read(d, s, keyOf(1), 1, 3)
		if code != api.OK || !slices.Equal(pagesOf(got), pagesOf(old)) {
			t.Errorf("%d images, step %d, %b kept: the old log has pages %v, code %d", n, step, x, pagesOf(got), code)
		}
		return
	}
	refuses(t, d, s, keyOf(1), 1, 3, api.ErrIntegrity)
	got, code := redo.Read(d, s, keyOf(1), 2, n)
	if code != api.OK || !slices.Equal(pagesOf(got), pagesOf(late)) {
		t.Errorf("%d images, step %d, %b kept: the new log has pages %v, code %d", n, step, x, pagesOf(got), code)
	}
}

// stands holds that nothing but the log was written to: the pages of images are noughts.
func stands(t *testing.T, look func(at int) []byte, l []api.Image) {
	t.Helper()
	for _, x := range l {
		if !bytes.Equal(look(x.Page), make([]byte, 512)) {
			t.Errorf("page %d was written to", x.Page)
		}
	}
}

// TestCrashWhileApplying: 16.5, the power goes at each step of Apply, and each set of what waits is kept: the log is as it was, and when it is read and applied once more all pages are as they were noted.
func TestCrashWhileApplying(t *testing.T) {
	for _, n := range []int{1, 2, 5} {
		for step := range n + 1 {
			for _, done := range []bool{false, true} {
				for x := range 1 << n {
					s, l := seal.New(true), images(n, 1)
					d, p := newDisk(t, 64)
					notes(t, d, s, keyOf(1), 1, l)
					p.Fuse(step, done)
					if code := redo.Apply(d, l); code != api.ErrDown {
						t.Fatalf("%d images, step %d: code %d", n, step, code)
					}
					d.Crash(bits(x, d.Loose()))
					p.Back()
					has(t, d, s, keyOf(1), 1, l)
					again, _ := redo.Read(d, s, keyOf(1), 1, n)
					if code := redo.Apply(d, again); code != api.OK {
						t.Fatalf("%d images, once more: code %d", n, code)
					}
					d.Crash(nil)
					for _, y := range l {
						if !bytes.Equal(d.Look(y.Page), y.Block) {
							t.Errorf("%d images, step %d, %b kept: page %d is not as it was noted", n, step, x, y.Page)
						}
					}
				}
			}
		}
	}
}

// TestOfItsEpochAlone: 16.5, each epoch's log, read as each other epoch's: it is not right.
func TestOfItsEpochAlone(t *testing.T) {
	all := append(epochs(), 4, 6, 7, 257, 1<<32+1, 1<<40-1, 1<<62)
	for _, s := range kinds() {
		for _, epoch := range all {
			d, _ := newDisk(t, 64)
			l := images(2, 1)
			notes(t, d, s, keyOf(1), epoch, l)
			for _, other := range all {
				if other == epoch {
					has(t, d, s, keyOf(1), epoch, l)
				} else {
					refuses(t, d, s, keyOf(1), other, 2, api.ErrIntegrity)
				}
			}
		}
		tells(t, s, len(all), false)
	}
}

// TestUnderItsKeyAlone: 16.5, each bit of the key counts.
func TestUnderItsKeyAlone(t *testing.T) {
	for _, s := range kinds() {
		d, _ := newDisk(t, 64)
		l := images(2, 1)
		notes(t, d, s, keyOf(1), 5, l)
		for bit := range 256 {
			refuses(t, d, s, turned(keyOf(1), bit), 5, 2, api.ErrIntegrity)
		}
		has(t, d, s, keyOf(1), 5, l)
		tells(t, s, 1, false)
	}
}

// TestPutBack: 16.5 and P2, somebody else puts an old log back, block 0 or all of it: as the epoch that counts it is not right, though it was right for its own.
func TestPutBack(t *testing.T) {
	for _, s := range kinds() {
		d, _ := newDisk(t, 64)
		old, late := images(3, 1), images(3, 2)
		notes(t, d, s, keyOf(1), 1, old)
		notes(t, d, s, keyOf(1), 2, late)
		d.Poke(api.Poke{At: 0, Kind: api.PokeBack, N: 1})
		refuses(t, d, s, keyOf(1), 2, 3, api.ErrIntegrity)
		for at := 1; at <= 3; at++ {
			d.Poke(api.Poke{At: at, Kind: api.PokeBack, N: 1})
		}
		refuses(t, d, s, keyOf(1), 2, 3, api.ErrIntegrity)
		has(t, d, s, keyOf(1), 1, old)
	}
}

// TestPlotted: P2, somebody else changes block 0 just ahead of the read: it is not right; an image behind that is read as it stands.
func TestPlotted(t *testing.T) {
	for _, s := range kinds() {
		d, _ := newDisk(t, 64)
		l := images(2, 1)
		notes(t, d, s, keyOf(1), 1, l)
		was := d.Look(0)
		d.Plot([]api.Poke{{When: d.Steps(), At: 0, Kind: api.PokeBytes, Bytes: turned(was, 9)}})
		refuses(t, d, s, keyOf(1), 1, 2, api.ErrIntegrity)
		put(d, 0, was)
		d.Plot([]api.Poke{{When: d.Steps() + 1, At: 0, Kind: api.PokeBytes}, {When: d.Steps() + 2, At: 2, Kind: api.PokeCopy, N: 1}})
		has(t, d, s, keyOf(1), 1, []api.Image{l[0], {Page: l[1].Page, Block: l[0].Block}})
	}
}

// TestSealersApart: P2, ideally what one sealer noted is nothing to another one; for real any sealer reads it, and knows that it did not seal it.
func TestSealersApart(t *testing.T) {
	d, _ := newDisk(t, 64)
	notes(t, d, seal.New(true), keyOf(1), 1, images(2, 1))
	other := seal.New(true)
	refuses(t, d, other, keyOf(1), 1, 2, api.ErrIntegrity)
	notes(t, d, seal.New(false), keyOf(1), 2, images(2, 2))
	refuses(t, d, other, keyOf(1), 2, 2, api.ErrIntegrity)
	real := seal.New(false)
	has(t, d, real, keyOf(1), 2, images(2, 2))
	if !real.Forged() {
		t.Error("read, and not known as forged")
	}
}

// TestSeenAlike: P3, ideally the disk is written and read alike for other keys, epochs and pages, of as many images of the same blocks.
func TestSeenAlike(t *testing.T) {
	for n := range redo.Most + 1 {
		one, _ := newDisk(t, 64)
		other, _ := newDisk(t, 64)
		l, m := images(n, 1), images(n, 1)
		for i := range m {
			m[i].Page = (m[i].Page + 3) % 64
		}
		s, r := seal.New(true), seal.New(true)
		notes(t, one, s, keyOf(1), 1, l)
		notes(t, other, r, keyOf(2), 77, m)
		has(t, one, s, keyOf(1), 1, l)
		has(t, other, r, keyOf(2), 77, m)
		checkSeen(t, one, 0, other.Seen(), 0)
	}
}
