package cell_test

import (
	"bytes"
	"math"
	"slices"
	"testing"

	"deedbox/api"
	"deedbox/cell"
	"deedbox/power"
)

// wrongLengths is how many bytes are more than a sector has.
func wrongLengths() []int { return []int{1025, 1026, 1040, 2047, 2048, 4096, 1 << 16} }

// TestReadCodes: 10.2, where there is no sector nothing is read, whether the power is there or not.
func TestReadCodes(t *testing.T) {
	c, p := newCell(t)
	check := func() {
		t.Helper()
		for _, at := range wrongPlaces() {
			if b, code := c.Read(at); code != api.ErrRange || len(b) != 0 {
				t.Errorf("sector %d: code %d, %d bytes", at, code, len(b))
			}
		}
	}
	check()
	p.Fuse(0, true)
	check()
	if p.Steps() != 0 || p.Down() {
		t.Errorf("%d steps, down %t", p.Steps(), p.Down())
	}
	p.Step(func() {})
	check()
}

// TestReadIsNoStep: 10.2, reads take no step of the power: it goes at none of them, however many there are.
func TestReadIsNoStep(t *testing.T) {
	c, p := newCell(t)
	write(t, c, 3, []byte("x"))
	p.Fuse(0, false)
	for range 9 {
		checkAll(t, c, nil, nil, nil, []byte("x"))
	}
	if p.Steps() != 1 || p.Down() {
		t.Errorf("%d steps, down %t", p.Steps(), p.Down())
	}
	checkWrites(t, c, 1)
}

// TestReadWithoutPower: 10.2, none of the sectors is read while the power is gone; all of them are as they were when it is back.
func TestReadWithoutPower(t *testing.T) {
	c, p := newCell(t)
	var want [][]byte
	for at := range cell.Sectors {
		want = append(want, row(at, 1000+at))
		write(t, c, at, want[at])
	}
	p.Fuse(0, true)
	p.Step(func() {})
	for at := range cell.Sectors {
		if b, code := c.Read(at); code != api.ErrDown || len(b) != 0 {
			t.Errorf("sector %d: code %d, %d bytes", at, code, len(b))
		}
	}
	checkWrites(t, c, cell.Sectors)
	p.Back()
	checkAll(t, c, want...)
}

// TestWriteCodes: 10.2, where there is no sector, ahead of too many bytes, ahead of a power that has gone; none of that is a step, or is written.
func TestWriteCodes(t *testing.T) {
	c, p := newCell(t)
	write(t, c, 0, []byte("zero"))
	check := func() {
		t.Helper()
		for _, at := range wrongPlaces() {
			for _, length := range append(wrongLengths(), 0, 1, cell.Size) {
				if code := c.Write(at, row(1, length)); code != api.ErrRange {
					t.Errorf("%d bytes to sector %d: code %d", length, at, code)
				}
			}
		}
		for at := range cell.Sectors {
			for _, length := range wrongLengths() {
				if code := c.Write(at, row(1, length)); code != api.ErrSize {
					t.Errorf("%d bytes to sector %d: code %d", length, at, code)
				}
			}
		}
		if p.Steps() != 1 {
			t.Errorf("%d steps", p.Steps())
		}
		checkWrites(t, c, 1)
	}
	check()
	p.Fuse(0, true)
	check()
	if p.Down() {
		t.Error("the power went at what is no step")
	}
	checkAll(t, c, []byte("zero"))
}

// TestWriteCodesWithoutPower: 10.2, the codes are in their order while the power is gone, too.
func TestWriteCodesWithoutPower(t *testing.T) {
	c, p := newCell(t)
	p.Fuse(0, true)
	p.Step(func() {})
	for _, at := range wrongPlaces() {
		if code := c.Write(at, row(1, cell.Size+1)); code != api.ErrRange {
			t.Errorf("sector %d: code %d", at, code)
		}
	}
	for at := range cell.Sectors {
		for length := range 2 * cell.Size {
			want := api.ErrDown
			if length > cell.Size {
				want = api.ErrSize
			}
			if code := c.Write(at, make([]byte, length)); code != want {
				t.Errorf("%d bytes to sector %d: code %d", length, at, code)
			}
		}
	}
	checkWrites(t, c, 0)
	p.Back()
	checkAll(t, c)
	if p.Steps() != 1 {
		t.Errorf("%d steps", p.Steps())
	}
}

// TestWriteAllLengths: 10.2, of each length up to a sector's, over a sector that is full: noughts are behind, and nothing of what was there; that is one step, and one write. Longer ones are refused, and the sector stays.
func TestWriteAllLengths(t *testing.T) {
	for at := range cell.Sectors {
		c, p := newCell(t)
		last := row(7, cell.Size)
		for length := range cell.Size + 1 {
			write(t, c, at, last)
			checkRead(t, c, at, last)
			b := row(length, length)
			write(t, c, at, b)
			checkRead(t, c, at, filled(b))
		}
		n := 2 * (cell.Size + 1)
		for length := cell.Size + 1; length < 2*cell.Size+2; length++ {
			if code := c.Write(at, row(length, length)); code != api.ErrSize {
				t.Errorf("%d bytes: code %d", length, code)
			}
		}
		checkRead(t, c, at, row(cell.Size, cell.Size))
		checkWrites(t, c, n)
		if p.Steps() != n {
			t.Errorf("%d steps; want %d", p.Steps(), n)
		}
	}
}

// TestWriteNothing: 10.2, no bytes, nil or not, are a sector of noughts, and a write.
func TestWriteNothing(t *testing.T) {
	c, p := newCell(t)
	for i, b := range [][]byte{nil, {}, row(1, 9)[:0]} {
		write(t, c, 2, row(i, cell.Size))
		write(t, c, 2, b)
		checkAll(t, c)
		checkWrites(t, c, 2*i+2)
		if p.Steps() != 2*i+2 {
			t.Errorf("%d steps", p.Steps())
		}
	}
}

// TestWriteOneSector: 10.2, a write changes its own sector, and no other one.
func TestWriteOneSector(t *testing.T) {
	for at := range cell.Sectors {
		c, _ := newCell(t)
		want := make([][]byte, cell.Sectors)
		for i := range want {
			want[i] = row(i, cell.Size)
			write(t, c, i, want[i])
		}
		want[at] = row(99, 512)
		write(t, c, at, want[at])
		checkAll(t, c, want...)
	}
}

// TestWriteAsPowerGoes: 10.2 and 10.3, at each sector, of each length: if the write is done as the power goes, the sector is written wholly, and that counts; if not, it is as it was, and that does not count; ErrDown either way.
func TestWriteAsPowerGoes(t *testing.T) {
	for at := range cell.Sectors {
		for _, length := range []int{0, 1, 2, 511, 512, 513, 1023, 1024} {
			for _, done := range []bool{false, true} {
				c, p := newCell(t)
				want := make([][]byte, cell.Sectors)
				for i := range want {
					want[i] = row(i, cell.Size)
					write(t, c, i, want[i])
				}
				b, n := row(50+length, length), cell.Sectors
				p.Fuse(0, done)
				if code := c.Write(at, b); code != api.ErrDown {
					t.Errorf("code %d", code)
				}
				if done {
					want[at] = b
					n++
				}
				checkWrites(t, c, n)
				if !p.Down() || p.Steps() != cell.Sectors+1 {
					t.Errorf("down %t, %d steps", p.Down(), p.Steps())
				}
				p.Back()
				checkAll(t, c, want...)
				checkWrites(t, c, n)
			}
		}
	}
}

// TestWriteUpToLoss: 10.2 and 10.3, writes ahead of the one at which the power goes are done, those behind it are not, and are no steps; when it is back, they are again.
func TestWriteUpToLoss(t *testing.T) {
	const all = 6
	for fuse := range all {
		for _, done := range []bool{false, true} {
			c, p := newCell(t)
			p.Fuse(fuse, done)
			for i := range all {
				want := api.OK
				if i >= fuse {
					want = api.ErrDown
				}
				if code := c.Write(2, row(i, 10)); code != want {
					t.Errorf("fuse %d, write %d: code %d", fuse, i, code)
				}
			}
			n := fuse
			if done {
				n++
			}
			checkWrites(t, c, n)
			if p.Steps() != fuse+1 {
				t.Errorf("%d steps", p.Steps())
			}
			p.Back()
			var last []byte
			if n > 0 {
				last = row(n-1, 10)
			}
			checkAll(t, c, nil, nil, last)
			write(t, c, 2, []byte("on"))
			checkAll(t, c, nil, nil, []byte("on"))
			checkWrites(t, c, n+1)
		}
	}
}

// TestWriteBesideOthers: 10.2, a write is a step of the power as others are: what else takes steps has it go earlier.
func TestWriteBesideOthers(t *testing.T) {
	c, p := newCell(t)
	p.Fuse(2, false)
	p.Step(func() {})
	write(t, c, 0, []byte("a"))
	if code := c.Write(0, []byte("b")); code != api.ErrDown {
		t.Errorf("code %d", code)
	}
	p.Back()
	p.Fuse(math.MaxInt, true)
	checkAll(t, c, []byte("a"))
	write(t, c, 0, []byte("c"))
	if p.Steps() != 4 {
		t.Errorf("%d steps", p.Steps())
	}
	checkWrites(t, c, 2)
}

// TestHandedIn: R3, what is handed in is neither changed, nor kept, nor read, written or handed out behind its length.
func TestHandedIn(t *testing.T) {
	c, _ := newCell(t)
	for _, length := range []int{0, 1, 2, 512, 1023, 1024} {
		b := row(length, length+40)
		was := slices.Clone(b)
		write(t, c, 1, b[:length])
		if !bytes.Equal(b, was) {
			t.Errorf("%d bytes that were handed in are changed", length)
		}
		turn(b)
		checkRead(t, c, 1, filled(was[:length]))
	}
	b := row(9, 3000)
	was := slices.Clone(b)
	if code := c.Write(1, b[:1025]); code != api.ErrSize || !bytes.Equal(b, was) {
		t.Errorf("code %d", code)
	}
}

// TestAnswered: R3, what is answered is new memory: who writes to it changes neither the cell, nor what was answered else.
func TestAnswered(t *testing.T) {
	c, _ := newCell(t)
	for at := range cell.Sectors {
		b := row(at, 900)
		write(t, c, at, b)
		first, _ := c.Read(at)
		second, _ := c.Read(at)
		turn(first)
		if !bytes.Equal(second, filled(b)) {
			t.Errorf("sector %d: answers share memory", at)
		}
		checkRead(t, c, at, filled(b))
		write(t, c, at, []byte("new"))
		if !bytes.Equal(second, filled(b)) {
			t.Errorf("sector %d: a write changes what was answered", at)
		}
		// What was read may be written back, whole or in part, from its own memory.
		write(t, c, at, second[1:])
		checkRead(t, c, at, filled(filled(b)[1:]))
	}
}

// TestManyWrites: 10.2, each write that is done counts, though the sector is the same behind it.
func TestManyWrites(t *testing.T) {
	c, err := cell.New(power.New())
	if err != api.OK {
		t.Fatal(err)
	}
	for i := range 5000 {
		write(t, c, i%cell.Sectors, []byte("same"))
		checkWrites(t, c, i+1)
	}
}
