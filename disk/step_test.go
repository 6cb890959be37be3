package disk_test

import (
	"math"
	"testing"

	"deedbox/api"
	"deedbox/disk"
	"deedbox/power"
)

// wrongLengths is how many bytes a block has not.
func wrongLengths() []int { return []int{0, 1, 2, 16, 496, 510, 511, 513, 514, 1024, 1 << 16} }

// checkUntouched holds that nothing was done: neither a step, of the disk or of the power, nor anything that is seen.
func checkUntouched(t *testing.T, d *disk.Disk, p *power.Power) {
	t.Helper()
	checkCounts(t, d, 0, 0)
	if p.Steps() != 0 || p.Down() || len(d.Seen()) != 0 {
		t.Errorf("%d steps of the power, down %t, %d touches", p.Steps(), p.Down(), len(d.Seen()))
	}
}

// TestReadCodes: 9.3, where there is no block nothing is read, and that is no step: the power is not asked, and somebody else does nothing.
func TestReadCodes(t *testing.T) {
	for _, n := range []int{1, 2, 9, api.MaxBlocks} {
		d, p := newDisk(t, n)
		d.Plot([]api.Poke{{When: 0, At: 0, Bytes: []byte("x")}})
		p.Fuse(0, true)
		for _, at := range wrongPlaces(n) {
			if b, code := d.Read(at); code != api.ErrRange || len(b) != 0 {
				t.Errorf("of %d blocks, block %d: code %d, %d bytes", n, at, code, len(b))
			}
		}
		checkUntouched(t, d, p)
		checkBlock(t, d, 0, noughts())
	}
}

// TestWriteCodes: 9.3, where there is no block, ahead of bytes that are no block, nothing is written, and that is no step.
func TestWriteCodes(t *testing.T) {
	for _, n := range []int{1, 2, 9, api.MaxBlocks} {
		d, p := newDisk(t, n)
		d.Plot([]api.Poke{{When: 0, At: 0, Bytes: []byte("x")}})
		p.Fuse(0, true)
		for _, at := range wrongPlaces(n) {
			for _, length := range append(wrongLengths(), api.Block) {
				if code := d.Write(at, make([]byte, length)); code != api.ErrRange {
					t.Errorf("of %d blocks, %d bytes to block %d: code %d", n, length, at, code)
				}
			}
		}
		for _, at := range []int{0, n - 1} {
			for _, length := range wrongLengths() {
				if code := d.Write(at, make([]byte, length)); code != api.ErrSize {
					t.Errorf("%d bytes: code %d", length, code)
				}
			}
			if code := d.Write(at, nil); code != api.ErrSize {
				t.Errorf("nil: code %d", code)
			}
		}
		checkUntouched(t, d, p)
		checkBlock(t, d, 0, noughts())
	}
}

// TestWriteAllLengths: 9.3, of all lengths about a block's one alone is taken, whatever lies behind it in memory.
func TestWriteAllLengths(t *testing.T) {
	d, _ := newDisk(t, 2)
	for length := range 3 * api.Block {
		want := api.ErrSize
		if length == api.Block {
			want = api.OK
		}
		if code := d.Write(1, make([]byte, length, 4*api.Block)); code != want {
			t.Errorf("%d bytes: code %d", length, code)
		}
	}
	checkCounts(t, d, 1, 1)
}

// TestCodesWithoutPower: 9.3, R6, what is wrong of the arguments is named ahead of the power that has gone.
func TestCodesWithoutPower(t *testing.T) {
	d, p := newDisk(t, 3)
	p.Fuse(0, false)
	if code := d.Flush(); code != api.ErrDown {
		t.Fatalf("code %d", code)
	}
	for _, at := range wrongPlaces(3) {
		if _, code := d.Read(at); code != api.ErrRange {
			t.Errorf("read block %d: code %d", at, code)
		}
		if code := d.Write(at, block(1)); code != api.ErrRange {
			t.Errorf("write block %d: code %d", at, code)
		}
	}
	if code := d.Write(1, block(1)[:511]); code != api.ErrSize {
		t.Errorf("code %d", code)
	}
	if b, code := d.Read(1); code != api.ErrDown || len(b) != 0 {
		t.Errorf("read: code %d, %d bytes", code, len(b))
	}
	if code := d.Write(1, block(1)); code != api.ErrDown {
		t.Errorf("write: code %d", code)
	}
	if code := d.Flush(); code != api.ErrDown {
		t.Errorf("flush: code %d", code)
	}
	checkCounts(t, d, 1, 0)
}

// TestSteps: 9.3, each read, write and flush is a step, of the disk and of the power.
func TestSteps(t *testing.T) {
	d, p := newDisk(t, 8)
	for i := range 300 {
		switch i % 3 {
		case 0:
			write(t, d, i%8, block(i))
		case 1:
			checkRead(t, d, (i-1)%8, block(i-1))
		default:
			flush(t, d)
		}
		if d.Steps() != i+1 || p.Steps() != i+1 {
			t.Fatalf("behind step %d: %d steps, %d of the power", i, d.Steps(), p.Steps())
		}
	}
}

// TestStepsAreTheDisks: 9.3, steps of other devices are none of the disk's.
func TestStepsAreTheDisks(t *testing.T) {
	d, p := newDisk(t, 2)
	for i := range 20 {
		p.Step(func() {})
		checkRead(t, d, 1, noughts())
		p.Step(func() {})
		checkCounts(t, d, i+1, 0)
	}
	if p.Steps() != 60 {
		t.Errorf("%d steps of the power", p.Steps())
	}
}

// TestReadChangesNothing: 9.3, what waits waits on behind a read.
func TestReadChangesNothing(t *testing.T) {
	d, _ := newDisk(t, 3)
	put(t, d, 1, block(1))
	write(t, d, 1, block(2))
	for range 4 {
		checkRead(t, d, 1, block(2))
		checkRead(t, d, 2, noughts())
	}
	checkCounts(t, d, 11, 1)
	d.Crash(nil)
	checkRead(t, d, 1, block(1))
}

// TestFlush: 9.3, all that waits is safe, in order: the last write of a block is what it is.
func TestFlush(t *testing.T) {
	d, _ := newDisk(t, 4)
	write(t, d, 1, block(1))
	write(t, d, 2, block(2))
	write(t, d, 1, block(3))
	write(t, d, 0, block(4))
	checkCounts(t, d, 4, 4)
	flush(t, d)
	checkCounts(t, d, 5, 0)
	d.Crash([]bool{true, true, true, true, true})
	for at, want := range [][]byte{block(4), block(3), block(2), noughts()} {
		checkRead(t, d, at, want)
	}
}

// TestFlushOfNothing: 9.3, it is a step all the same, and changes nothing.
func TestFlushOfNothing(t *testing.T) {
	d, _ := newDisk(t, 2)
	put(t, d, 1, block(1))
	flush(t, d)
	flush(t, d)
	checkCounts(t, d, 4, 0)
	d.Poke(api.Poke{At: 1, Kind: api.PokeBack, N: 1})
	checkBlock(t, d, 1, noughts())
}

// fused is a disk with a safe block 1, a write of block 2 that waits, and the power going at the next step.
func fused(t *testing.T, done bool) (*disk.Disk, *power.Power) {
	t.Helper()
	d, p := newDisk(t, 4)
	put(t, d, 1, block(1))
	write(t, d, 2, block(2))
	p.Fuse(0, done)
	return d, p
}

// TestReadAsThePowerGoes: 9.3, ErrDown and no bytes; 9.6, it is seen if it was done.
func TestReadAsThePowerGoes(t *testing.T) {
	for _, done := range []bool{false, true} {
		d, p := fused(t, done)
		if b, code := d.Read(1); code != api.ErrDown || len(b) != 0 {
			t.Errorf("code %d, %d bytes", code, len(b))
		}
		checkGone(t, d, p, 1, done)
		checkBlock(t, d, 1, block(1))
		checkBlock(t, d, 2, block(2))
	}
}

// TestWriteAsThePowerGoes: 9.3, ErrDown; the write waits, or not.
func TestWriteAsThePowerGoes(t *testing.T) {
	for _, done := range []bool{false, true} {
		d, p := fused(t, done)
		if code := d.Write(1, block(3)); code != api.ErrDown {
			t.Errorf("code %d", code)
		}
		if done {
			checkGone(t, d, p, 2, done)
			checkBlock(t, d, 1, block(3))
		} else {
			checkGone(t, d, p, 1, done)
			checkBlock(t, d, 1, block(1))
		}
		d.Crash([]bool{true, false})
		checkBlock(t, d, 1, block(1))
		checkBlock(t, d, 2, block(2))
	}
}

// TestFlushAsThePowerGoes: 9.3, ErrDown; what waits is safe, or waits on.
func TestFlushAsThePowerGoes(t *testing.T) {
	for _, done := range []bool{false, true} {
		d, p := fused(t, done)
		if code := d.Flush(); code != api.ErrDown {
			t.Errorf("code %d", code)
		}
		if done {
			checkGone(t, d, p, 0, done)
		} else {
			checkGone(t, d, p, 1, done)
		}
		d.Crash(nil)
		checkBlock(t, d, 1, block(1))
		if done {
			checkBlock(t, d, 2, block(2))
		} else {
			checkBlock(t, d, 2, noughts())
		}
	}
}

// checkGone holds that the step at which the power went is counted, and none behind it; that it is seen if it was done; and that nothing is done until the power comes again.
func checkGone(t *testing.T, d *disk.Disk, p *power.Power, loose int, done bool) {
	t.Helper()
	seen := 3
	if done {
		seen = 4
	}
	for range 3 {
		checkCounts(t, d, 4, loose)
		if !p.Down() || p.Steps() != 4 || len(d.Seen()) != seen {
			t.Errorf("down %t, %d steps of the power, %d touches, want %d", p.Down(), p.Steps(), len(d.Seen()), seen)
		}
		if b, code := d.Read(1); code != api.ErrDown || len(b) != 0 {
			t.Errorf("read: code %d, %d bytes", code, len(b))
		}
		if code := d.Write(3, block(7)); code != api.ErrDown {
			t.Errorf("write: code %d", code)
		}
		if code := d.Flush(); code != api.ErrDown {
			t.Errorf("flush: code %d", code)
		}
	}
	checkBlock(t, d, 3, noughts())
	p.Back()
	checkRead(t, d, 3, noughts())
	checkCounts(t, d, 5, loose)
}

// TestPowerThatGoesLater: 9.3, all steps ahead of the one at which the power goes are done, at whatever step that is.
func TestPowerThatGoesLater(t *testing.T) {
	for n := range 12 {
		for _, done := range []bool{false, true} {
			d, p := newDisk(t, 12)
			p.Fuse(n, done)
			for i := range 12 {
				want := api.OK
				if i >= n {
					want = api.ErrDown
				}
				if code := d.Write(i, block(i)); code != want {
					t.Errorf("it goes at %d, step %d: code %d", n, i, code)
				}
			}
			loose := n
			if done {
				loose++
			}
			checkCounts(t, d, n+1, loose)
			for i := range 12 {
				want := noughts()
				if i < loose {
					want = block(i)
				}
				checkBlock(t, d, i, want)
			}
		}
	}
}

// TestPowerOfAnotherStep: 9.3, power that goes at another device's step is gone for the disk, and that step is none of the disk's.
func TestPowerOfAnotherStep(t *testing.T) {
	d, p := newDisk(t, 2)
	write(t, d, 1, block(1))
	p.Fuse(0, true)
	p.Step(func() {})
	if code := d.Flush(); code != api.ErrDown {
		t.Errorf("code %d", code)
	}
	checkCounts(t, d, 1, 1)
	p.Back()
	flush(t, d)
	checkCounts(t, d, 2, 0)
}

// TestManySteps: 9.3, 9.7, many writes, flushed now and then, stand as they were last written.
func TestManySteps(t *testing.T) {
	const size, writes = 61, 20000
	d, _ := newDisk(t, size)
	last := map[int]int{}
	steps := 0
	for i := range writes {
		at := i * 37 % size
		write(t, d, at, block(i))
		last[at] = i
		steps++
		if i%29 == 0 {
			flush(t, d)
			steps++
		}
	}
	for at, i := range last {
		checkRead(t, d, at, block(i))
		steps++
	}
	checkCounts(t, d, steps, (writes-1)%29)
	if b := d.Look(math.MaxInt); len(b) != 0 {
		t.Errorf("%d bytes", len(b))
	}
}
