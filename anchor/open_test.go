package anchor_test

import (
	"bytes"
	"reflect"
	"slices"
	"testing"

	"deedbox/anchor"
	"deedbox/api"
	"deedbox/cell"
	"deedbox/power"
)

// newCell is a cell, and the power that it is on.
func newCell(t *testing.T) (*cell.Cell, *power.Power) {
	t.Helper()
	p := power.New()
	c, code := cell.New(p)
	if code != api.OK {
		t.Fatal(code)
	}
	return c, p
}

// cellOf is a cell whose sectors begin with these bytes.
func cellOf(t *testing.T, sectors ...[]byte) (*cell.Cell, *power.Power) {
	t.Helper()
	c, p := newCell(t)
	for at, b := range sectors {
		if code := c.Write(at, b); code != api.OK {
			t.Fatal(code)
		}
	}
	return c, p
}

// open is the keeper of a cell; there must be one.
func open(t *testing.T, c *cell.Cell) *anchor.Keeper {
	t.Helper()
	k, code := anchor.Open(c)
	if code != api.OK || k == nil {
		t.Fatalf("no keeper: code %d", code)
	}
	return k
}

// counts checks that an anchor counts, in the keeper, and in one that is opened anew.
func counts(t *testing.T, k *anchor.Keeper, want api.Anchor) {
	t.Helper()
	keeps(t, k, want)
	keeps(t, open(t, k.Cell), want)
}

// keeps checks that an anchor counts in the keeper.
func keeps(t *testing.T, k *anchor.Keeper, want api.Anchor) {
	t.Helper()
	if a, ok := k.Last(); !ok || !reflect.DeepEqual(a, want) {
		t.Errorf("%t, %+v; want %+v", ok, a, want)
	}
}

// keepsNone checks that none counts.
func keepsNone(t *testing.T, k *anchor.Keeper) {
	t.Helper()
	if a, ok := k.Last(); ok || !reflect.DeepEqual(a, api.Anchor{}) {
		t.Errorf("%t, %+v; want none", ok, a)
	}
}

// numbered is a right anchor of that number, of its own for each seed.
func numbered(seq, seed int) api.Anchor {
	a := right(seed % 17)
	a.Seq, a.Given, a.Master = seq, 70000+seed, row(seed, 32)
	return a
}

// goDown has the power go, at a step that does nothing.
func goDown(p *power.Power) {
	p.Fuse(0, false)
	p.Step(func() {})
}

// TestOpenNil: 14.5, without a cell there is no keeper.
func TestOpenNil(t *testing.T) {
	if k, code := anchor.Open(nil); code != api.ErrArg || k != nil {
		t.Errorf("code %d, a keeper: %t", code, k != nil)
	}
}

// TestOpenDown: 14.5, nor is there one while the power has gone, whatever stands in the cell; when it is back, there is.
func TestOpenDown(t *testing.T) {
	for _, sectors := range [][][]byte{nil, {row(1, 9)}, {written(right(1)), written(numbered(8, 2))}} {
		c, p := cellOf(t, sectors...)
		goDown(p)
		if k, code := anchor.Open(c); code != api.ErrDown || k != nil {
			t.Errorf("code %d, a keeper: %t", code, k != nil)
		}
		p.Back()
		open(t, c)
	}
	if k, code := anchor.Open(&cell.Cell{}); code != api.ErrDown || k != nil {
		t.Errorf("a cell that was not made: code %d, a keeper: %t", code, k != nil)
	}
}

// TestOpenIsNoStep: 14.5, to open and to look takes no step of the power, and writes nothing.
func TestOpenIsNoStep(t *testing.T) {
	c, p := cellOf(t, written(right(1)))
	p.Fuse(0, true)
	for range 3 {
		keeps(t, open(t, c), right(1))
	}
	if p.Steps() != 1 || p.Down() || c.Writes() != 1 {
		t.Errorf("%d steps, %d writes", p.Steps(), c.Writes())
	}
}

// TestOpenNew: 14.5, in a new cell none counts.
func TestOpenNew(t *testing.T) {
	c, _ := newCell(t)
	keepsNone(t, open(t, c))
}

// TestOpenGreater: 14.5, of two anchors the one of the greater number counts, of like ones that of sector 0.
func TestOpenGreater(t *testing.T) {
	for _, first := range []int{1, 2, 3, 254, 255, 256, 65536, 1<<40 - 1, 1 << 40} {
		for _, second := range []int{1, 2, 3, 254, 255, 256, 65536, 1<<40 - 1, 1 << 40} {
			a, b := numbered(first, 4), numbered(second, 5)
			c, _ := cellOf(t, written(a), written(b))
			want := a
			if second > first {
				want = b
			}
			keeps(t, open(t, c), want)
		}
	}
}

// noAnchors is what a sector may have that is no anchor.
func noAnchors() [][]byte {
	l := [][]byte{nil, row(1, 1024), []byte("deedbox1"), []byte("deedbox2"), written(right(1))[1:], append([]byte{0}, written(right(1))...), written(right(20))}
	turned := written(right(1))
	turned[7] ^= 1
	tooMany := written(right(2))
	tooMany[88] = 26
	l = append(l, turned, tooMany)
	for _, f := range fields()[:7] {
		l = append(l, written(f.with(f.most+1)))
	}
	return append(l, written(changed(func(a *api.Anchor) { a.Seq = 0 })))
}

// TestOpenNoAnchors: 14.5, what is no anchor does not count, however great its number is; the other one does.
func TestOpenNoAnchors(t *testing.T) {
	a := numbered(1, 3)
	for i, b := range noAnchors() {
		c, _ := cellOf(t, b, written(a))
		keeps(t, open(t, c), a)
		c, _ = cellOf(t, written(a), b)
		keeps(t, open(t, c), a)
		c, _ = cellOf(t, b, noAnchors()[(i+1)%len(noAnchors())])
		keepsNone(t, open(t, c))
	}
}

// TestOpenBehind: 14.5, a sector has to begin with the anchor; what stands behind it is of no matter.
func TestOpenBehind(t *testing.T) {
	for _, count := range []int{0, 1, 16} {
		b := written(right(count))
		b = append(b, row(7, cell.Size-len(b))...)
		c, _ := cellOf(t, b)
		keeps(t, open(t, c), right(count))
		c, _ = cellOf(t, nil, b)
		keeps(t, open(t, c), right(count))
	}
}

// TestOpenOtherSectors: 14.5, anchors in sectors 2 and 3 do not count.
func TestOpenOtherSectors(t *testing.T) {
	c, _ := cellOf(t, nil, nil, written(right(1)), written(numbered(9, 2)))
	keepsNone(t, open(t, c))
	c, _ = cellOf(t, nil, written(right(1)), written(numbered(8, 1)), written(numbered(9, 2)))
	keeps(t, open(t, c), right(1))
}

// TestLastIsNew: 14.5 and R3, what is told of the anchor that counts may be written over.
func TestLastIsNew(t *testing.T) {
	c, _ := cellOf(t, written(right(5)))
	k := open(t, c)
	for range 3 {
		a, _ := k.Last()
		scribble(a)
		counts(t, k, right(5))
	}
}

// TestLastWithoutPower: 14.5, the keeper knows which one counts while the power has gone, too.
func TestLastWithoutPower(t *testing.T) {
	c, p := cellOf(t, written(right(5)))
	k := open(t, c)
	goDown(p)
	keeps(t, k, right(5))
}

// device is the calls of a cell.
type device interface {
	Read(at int) ([]byte, api.Code)
	Write(at int, b []byte) api.Code
	Writes() int
}

// TestKeeperIsACell: 14.5, the keeper has all calls of its cell, and they are that cell's.
func TestKeeperIsACell(t *testing.T) {
	c, p := newCell(t)
	k := open(t, c)
	var d device = k
	if k.Cell != c {
		t.Error("another cell")
	}
	for at := range cell.Sectors {
		if code := d.Write(at, row(at, 5)); code != api.OK {
			t.Errorf("sector %d: code %d", at, code)
		}
		b, code := c.Read(at)
		if code != api.OK || !bytes.Equal(b, slices.Concat(row(at, 5), make([]byte, 1019))) {
			t.Errorf("sector %d: code %d", at, code)
		}
		again, code := d.Read(at)
		if code != api.OK || !bytes.Equal(again, b) {
			t.Errorf("sector %d, by the keeper: code %d", at, code)
		}
	}
	if d.Writes() != 4 || c.Writes() != 4 {
		t.Errorf("%d and %d writes", d.Writes(), c.Writes())
	}
	if code := d.Write(4, nil); code != api.ErrRange {
		t.Errorf("code %d", code)
	}
	if code := d.Write(0, make([]byte, 1025)); code != api.ErrSize {
		t.Errorf("code %d", code)
	}
	goDown(p)
	if _, code := d.Read(0); code != api.ErrDown {
		t.Errorf("code %d", code)
	}
}
