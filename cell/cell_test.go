package cell_test

import (
	"bytes"
	"math"
	"testing"

	"deedbox/api"
	"deedbox/cell"
	"deedbox/power"
)

// wrongPlaces is where a cell has no sector.
func wrongPlaces() []int {
	return []int{-1, -2, -4, -cell.Size, math.MinInt32, math.MinInt, 4, 5, 8, cell.Size, math.MaxInt32, math.MaxInt}
}

// row is so many bytes, of its own for each seed; none of them is nought.
func row(seed, length int) []byte {
	b := make([]byte, length)
	x := uint32(seed)*2654435761 + 12345
	for i := range b {
		x = x*1664525 + 1013904223
		b[i] = byte(x>>24) | 1
	}
	return b
}

// filled is a sector that begins with these bytes, and has noughts behind.
func filled(b []byte) []byte {
	s := make([]byte, cell.Size)
	copy(s, b)
	return s
}

// turn writes over a row of bytes, and over what lies behind its length; to do so twice brings nothing back.
func turn(b []byte) {
	b = b[:cap(b)]
	for i := range b {
		b[i] += 13
	}
}

// newCell is a cell, and the power that it is on.
func newCell(t *testing.T) (*cell.Cell, *power.Power) {
	t.Helper()
	p := power.New()
	c, code := cell.New(p)
	if code != api.OK || c == nil {
		t.Fatalf("no cell: code %d", code)
	}
	return c, p
}

// checkRead reads a sector, and holds it against what is wanted.
func checkRead(t *testing.T, c *cell.Cell, at int, want []byte) {
	t.Helper()
	if got, code := c.Read(at); code != api.OK || !bytes.Equal(got, want) {
		t.Errorf("sector %d is read with code %d, begins with %x, has %d bytes; want %x, %d", at, code, got[:min(len(got), 4)], len(got), want[:4], len(want))
	}
}

// checkAll holds all sectors against what is wanted: noughts, where there is nothing.
func checkAll(t *testing.T, c *cell.Cell, want ...[]byte) {
	t.Helper()
	for at := range cell.Sectors {
		var b []byte
		if at < len(want) {
			b = want[at]
		}
		checkRead(t, c, at, filled(b))
	}
}

// checkWrites holds how many writes were done against what is wanted.
func checkWrites(t *testing.T, c *cell.Cell, want int) {
	t.Helper()
	if c.Writes() != want {
		t.Errorf("%d writes were done; want %d", c.Writes(), want)
	}
}

// write writes a sector, which must be done.
func write(t *testing.T, c *cell.Cell, at int, b []byte) {
	t.Helper()
	if code := c.Write(at, b); code != api.OK {
		t.Fatalf("sector %d is not written: code %d", at, code)
	}
}

// TestLimits: 10.1, how many sectors there are, and how many bytes each has, as constants.
func TestLimits(t *testing.T) {
	const sectors, size = cell.Sectors, cell.Size
	if sectors != 4 || size != 1024 {
		t.Errorf("%d sectors of %d bytes", sectors, size)
	}
}

// TestNew: 10.1, all sectors are noughts, and nothing was written; to make one, and to read, is no step of the power.
func TestNew(t *testing.T) {
	c, p := newCell(t)
	checkAll(t, c)
	checkWrites(t, c, 0)
	if p.Steps() != 0 || p.Down() {
		t.Errorf("%d steps of the power, down %t", p.Steps(), p.Down())
	}
}

// TestNewWithoutPower: 10.1, without a power there is no cell.
func TestNewWithoutPower(t *testing.T) {
	if c, code := cell.New(nil); code != api.ErrArg || c != nil {
		t.Errorf("code %d, a cell: %t", code, c != nil)
	}
}

// TestNewWhilePowerIsGone: 10.1, there is a cell on a power that has gone; it is read when that is back.
func TestNewWhilePowerIsGone(t *testing.T) {
	p := power.New()
	p.Fuse(0, false)
	p.Step(func() {})
	c, code := cell.New(p)
	if code != api.OK || c == nil {
		t.Fatalf("code %d", code)
	}
	if b, code := c.Read(0); code != api.ErrDown || len(b) != 0 {
		t.Errorf("code %d, %d bytes", code, len(b))
	}
	p.Back()
	checkAll(t, c)
}

// TestTwoCells: 10.1, cells on one power have sectors and counts of their own, and that power's steps in common.
func TestTwoCells(t *testing.T) {
	a, p := newCell(t)
	b, code := cell.New(p)
	if code != api.OK {
		t.Fatal(code)
	}
	write(t, a, 2, []byte("one"))
	write(t, a, 2, []byte("two"))
	write(t, b, 0, []byte("else"))
	checkAll(t, a, nil, nil, []byte("two"))
	checkAll(t, b, []byte("else"))
	checkWrites(t, a, 2)
	checkWrites(t, b, 1)
	p.Fuse(0, true)
	if code := a.Write(1, []byte("x")); code != api.ErrDown {
		t.Errorf("code %d", code)
	}
	if code := b.Write(1, []byte("x")); code != api.ErrDown {
		t.Errorf("the other cell writes on: code %d", code)
	}
	if _, code := b.Read(1); code != api.ErrDown {
		t.Errorf("the other cell is read: code %d", code)
	}
	if p.Steps() != 4 {
		t.Errorf("%d steps", p.Steps())
	}
}

// TestTwoPowers: 10.1, a cell is on the power that it was made on, not on another one.
func TestTwoPowers(t *testing.T) {
	a, p := newCell(t)
	b, q := newCell(t)
	p.Fuse(0, false)
	if code := a.Write(0, []byte("x")); code != api.ErrDown {
		t.Errorf("code %d", code)
	}
	write(t, b, 0, []byte("x"))
	checkAll(t, b, []byte("x"))
	if p.Steps() != 1 || q.Steps() != 1 || q.Down() {
		t.Errorf("%d and %d steps, down %t", p.Steps(), q.Steps(), q.Down())
	}
}

// TestExample: the chapter's example.
func TestExample(t *testing.T) {
	c, _ := newCell(t)
	write(t, c, 1, []byte("ab"))
	want := append([]byte{'a', 'b'}, make([]byte, 1022)...)
	checkRead(t, c, 1, want)
	checkAll(t, c, nil, []byte("ab"))
	checkWrites(t, c, 1)
}

// TestNotMade: a cell that New did not make has no power: it is as one whose power has gone.
func TestNotMade(t *testing.T) {
	var c cell.Cell
	for at := range cell.Sectors {
		if b, code := c.Read(at); code != api.ErrDown || len(b) != 0 {
			t.Errorf("code %d, %d bytes", code, len(b))
		}
		if code := c.Write(at, []byte("x")); code != api.ErrDown {
			t.Errorf("code %d", code)
		}
	}
	if _, code := c.Read(-1); code != api.ErrRange {
		t.Errorf("code %d", code)
	}
	if code := c.Write(4, nil); code != api.ErrRange {
		t.Errorf("code %d", code)
	}
	checkWrites(t, &c, 0)
}
