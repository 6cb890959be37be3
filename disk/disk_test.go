package disk_test

import (
	"bytes"
	"math"
	"slices"
	"testing"

	"deedbox/api"
	"deedbox/disk"
	"deedbox/power"
)

// wrongPlaces is where a disk of so many blocks has none.
func wrongPlaces(size int) []int {
	return []int{-1, -2, -api.Block, math.MinInt32, math.MinInt, size, size + 1, api.MaxBlocks, math.MaxInt32, math.MaxInt}
}

// block is a block of its own for each seed.
func block(seed int) []byte {
	b := make([]byte, api.Block)
	x := uint32(seed)*2654435761 + 12345
	for i := range b {
		x = x*1664525 + 1013904223
		b[i] = byte(x >> 24)
	}
	return b
}

func noughts() []byte { return make([]byte, api.Block) }

// turn writes over a row of bytes, and over what lies behind its length; to do so twice brings nothing back.
func turn(b []byte) {
	b = b[:cap(b)]
	for i := range b {
		b[i] += 13
	}
}

// newDisk is a disk, and the power that it is on.
func newDisk(t *testing.T, n int) (*disk.Disk, *power.Power) {
	t.Helper()
	p := power.New()
	d, code := disk.New(p, n)
	if code != api.OK || d == nil {
		t.Fatalf("no disk of %d blocks: code %d", n, code)
	}
	return d, p
}

// checkBlock holds a block, as it would be read, against what is wanted.
func checkBlock(t *testing.T, d *disk.Disk, at int, want []byte) {
	t.Helper()
	if got := d.Look(at); !bytes.Equal(got, want) {
		t.Errorf("block %d begins with %x, has %d bytes; want %x, %d", at, got[:min(len(got), 4)], len(got), want[:4], len(want))
	}
}

// checkRead reads a block, and holds it against what is wanted.
func checkRead(t *testing.T, d *disk.Disk, at int, want []byte) {
	t.Helper()
	if got, code := d.Read(at); code != api.OK || !bytes.Equal(got, want) {
		t.Errorf("block %d is read with code %d, begins with %x, has %d bytes; want %x, %d", at, code, got[:min(len(got), 4)], len(got), want[:4], len(want))
	}
}

// checkCounts holds how many steps there were, and how many writes wait, against what is wanted.
func checkCounts(t *testing.T, d *disk.Disk, steps, loose int) {
	t.Helper()
	if d.Steps() != steps || d.Loose() != loose {
		t.Errorf("%d steps, %d wait; want %d, %d", d.Steps(), d.Loose(), steps, loose)
	}
}

// write writes a block, which must be done.
func write(t *testing.T, d *disk.Disk, at int, b []byte) {
	t.Helper()
	if code := d.Write(at, b); code != api.OK {
		t.Fatalf("block %d is not written: code %d", at, code)
	}
}

// flush flushes, which must be done.
func flush(t *testing.T, d *disk.Disk) {
	t.Helper()
	if code := d.Flush(); code != api.OK {
		t.Fatalf("not flushed: code %d", code)
	}
}

// put writes a block, and makes it safe.
func put(t *testing.T, d *disk.Disk, at int, b []byte) {
	t.Helper()
	write(t, d, at, b)
	flush(t, d)
}

// sameTouches tells whether two rows of touches are the same.
func sameTouches(a, b []api.Touch) bool {
	return slices.EqualFunc(a, b, func(x, y api.Touch) bool {
		return x.Kind == y.Kind && x.At == y.At && bytes.Equal(x.Bytes, y.Bytes)
	})
}

// TestNew: 9.1, disks of all sizes that may be, all noughts, without a step and without anything that waits.
func TestNew(t *testing.T) {
	for n := 1; n <= api.MaxBlocks; n++ {
		d, _ := newDisk(t, n)
		if d.Size() != n {
			t.Errorf("a disk of %d blocks has %d", n, d.Size())
		}
		checkCounts(t, d, 0, 0)
		checkBlock(t, d, 0, noughts())
		checkBlock(t, d, n-1, noughts())
		if l := d.Seen(); len(l) != 0 {
			t.Errorf("%d touches were seen of a new disk", len(l))
		}
	}
}

// TestNewIsNoughts: 9.1, each block of the greatest disk is one of noughts, looked at or read, and can be written.
func TestNewIsNoughts(t *testing.T) {
	d, _ := newDisk(t, api.MaxBlocks)
	for at := range api.MaxBlocks {
		checkBlock(t, d, at, noughts())
		checkRead(t, d, at, noughts())
	}
	for at := range api.MaxBlocks {
		put(t, d, at, block(at))
	}
	for at := range api.MaxBlocks {
		checkRead(t, d, at, block(at))
	}
	checkCounts(t, d, 4*api.MaxBlocks, 0)
}

// TestNewCodes: 9.1, without a power, and ahead of a size that is wrong; sizes that are wrong.
func TestNewCodes(t *testing.T) {
	wrong := []int{0, -1, -2, -4096, math.MinInt32, math.MinInt, api.MaxBlocks + 1, api.MaxBlocks + 2, 1 << 20, math.MaxInt32, math.MaxInt}
	for _, n := range append([]int{1, 2, 4, api.MaxBlocks}, wrong...) {
		if d, code := disk.New(nil, n); d != nil || code != api.ErrArg {
			t.Errorf("%d blocks without a power: code %d", n, code)
		}
	}
	for _, n := range wrong {
		if d, code := disk.New(power.New(), n); d != nil || code != api.ErrRange {
			t.Errorf("%d blocks: code %d", n, code)
		}
	}
}

// TestNewTakesNoPower: 9.1, a disk is made without a step, on power that has gone, too.
func TestNewTakesNoPower(t *testing.T) {
	p := power.New()
	p.Fuse(0, true)
	p.Step(func() {})
	d, code := disk.New(p, 3)
	if code != api.OK || d.Size() != 3 || p.Steps() != 1 {
		t.Fatalf("code %d, %d steps of the power", code, p.Steps())
	}
	if code := d.Flush(); code != api.ErrDown {
		t.Errorf("flushed without power: code %d", code)
	}
	checkCounts(t, d, 0, 0)
	p.Back()
	put(t, d, 2, block(1))
	checkCounts(t, d, 2, 0)
}

// TestEachIsItsOwn: 9.1, disks share nothing but their power.
func TestEachIsItsOwn(t *testing.T) {
	p := power.New()
	one, _ := disk.New(p, 2)
	other, _ := disk.New(p, 2)
	put(t, one, 1, block(1))
	write(t, one, 0, block(2))
	checkBlock(t, other, 0, noughts())
	checkBlock(t, other, 1, noughts())
	checkCounts(t, other, 0, 0)
	checkRead(t, other, 1, noughts())
	checkCounts(t, one, 3, 1)
	checkCounts(t, other, 1, 0)
	if p.Steps() != 4 {
		t.Errorf("%d steps of the power, want 4", p.Steps())
	}
	p.Fuse(0, false)
	if one.Flush() != api.ErrDown || other.Flush() != api.ErrDown {
		t.Error("the power is not the same")
	}
	checkCounts(t, one, 4, 1)
	checkCounts(t, other, 1, 0)
	other.Crash([]bool{true})
	checkCounts(t, one, 4, 1)
	checkBlock(t, one, 0, block(2))
}

// TestLook: 9.2, a block is the last write of it that waits, among writes of others, or what is safe.
func TestLook(t *testing.T) {
	d, _ := newDisk(t, 4)
	put(t, d, 1, block(1))
	checkBlock(t, d, 1, block(1))
	write(t, d, 2, block(2))
	checkBlock(t, d, 1, block(1))
	checkBlock(t, d, 2, block(2))
	write(t, d, 1, block(3))
	write(t, d, 2, block(4))
	write(t, d, 1, block(5))
	write(t, d, 3, block(6))
	checkBlock(t, d, 0, noughts())
	checkBlock(t, d, 1, block(5))
	checkBlock(t, d, 2, block(4))
	checkBlock(t, d, 3, block(6))
	d.Crash([]bool{false, true})
	checkBlock(t, d, 1, block(3))
	checkBlock(t, d, 2, noughts())
	checkBlock(t, d, 3, noughts())
}

// TestLookIsNoStep: 9.2, to look is no step, is not seen, and needs no power.
func TestLookIsNoStep(t *testing.T) {
	d, p := newDisk(t, 4)
	write(t, d, 1, block(1))
	d.Plot([]api.Poke{{When: 1, At: 1, Bytes: []byte("x")}})
	p.Fuse(0, true)
	for range 5 {
		checkBlock(t, d, 1, block(1))
	}
	checkCounts(t, d, 1, 1)
	if p.Down() || p.Steps() != 1 || len(d.Seen()) != 1 {
		t.Errorf("down %t, %d steps of the power, %d touches", p.Down(), p.Steps(), len(d.Seen()))
	}
	p.Step(func() {})
	checkBlock(t, d, 1, block(1))
	checkCounts(t, d, 1, 1)
}

// TestLookAtNone: R5, where there is no block, there are no bytes.
func TestLookAtNone(t *testing.T) {
	for _, n := range []int{1, 2, 7, api.MaxBlocks} {
		d, _ := newDisk(t, n)
		write(t, d, n-1, block(n))
		for _, at := range wrongPlaces(n) {
			if b := d.Look(at); len(b) != 0 {
				t.Errorf("of %d blocks, block %d has %d bytes", n, at, len(b))
			}
		}
	}
}

// TestExample: the chapter's example.
func TestExample(t *testing.T) {
	d, _ := newDisk(t, 4)
	write(t, d, 2, block(9))
	checkRead(t, d, 2, block(9))
	d.Crash(nil)
	checkRead(t, d, 2, noughts())
	checkCounts(t, d, 3, 0)
}

// TestNoPanicWithoutNew: a disk that New did not make has no block and no power, and no call panics.
func TestNoPanicWithoutNew(t *testing.T) {
	var d disk.Disk
	d.Plot([]api.Poke{{When: 0, At: 0, Kind: api.PokeBack}})
	d.Poke(api.Poke{At: 0, Bytes: []byte("x")})
	if _, code := d.Read(0); code != api.ErrRange {
		t.Errorf("read: code %d", code)
	}
	if code := d.Write(0, block(1)); code != api.ErrRange {
		t.Errorf("written: code %d", code)
	}
	if code := d.Flush(); code != api.ErrDown {
		t.Errorf("flushed: code %d", code)
	}
	d.Crash([]bool{true})
	if len(d.Look(0)) != 0 || len(d.Seen()) != 0 || d.Size() != 0 {
		t.Error("something is there")
	}
	checkCounts(t, &d, 0, 0)
}
