package disk_test

import (
	"slices"
	"testing"

	"deedbox/api"
)

// bits is the lowest n bits of a number, as a row.
func bits(x, n int) []bool {
	var l []bool
	for i := range n {
		l = append(l, x>>i&1 == 1)
	}
	return l
}

// TestCrash: 9.4, of six writes, two of each of three blocks, each set is kept, in order; the others are lost.
func TestCrash(t *testing.T) {
	places := []int{1, 3, 1, 0, 3, 0}
	for x := range 1 << len(places) {
		keep := bits(x, len(places))
		d, _ := newDisk(t, 4)
		put(t, d, 1, block(100))
		want := [][]byte{noughts(), block(100), noughts(), noughts()}
		for i, at := range places {
			write(t, d, at, block(i))
			if keep[i] {
				want[at] = block(i)
			}
		}
		checkCounts(t, d, 8, 6)
		d.Crash(keep)
		checkCounts(t, d, 8, 0)
		for at, b := range want {
			checkBlock(t, d, at, b)
		}
		d.Crash([]bool{true, true, true, true, true, true})
		flush(t, d)
		for at, b := range want {
			checkRead(t, d, at, b)
		}
	}
}

// TestCrashKeepOfAllLengths: 9.4, writes behind the end of keep are lost; what keep says behind the last write is of no matter.
func TestCrashKeepOfAllLengths(t *testing.T) {
	const writes = 5
	for length := range 9 {
		for x := range 1 << length {
			keep := bits(x, length)
			d, _ := newDisk(t, writes)
			for i := range writes {
				write(t, d, i, block(i))
			}
			d.Crash(keep)
			checkCounts(t, d, writes, 0)
			for i := range writes {
				want := noughts()
				if i < length && keep[i] {
					want = block(i)
				}
				checkBlock(t, d, i, want)
			}
		}
	}
}

// TestCrashKeepOfMemory: 9.4, R3, what lies behind the length of keep is not read, and keep stays as it was.
func TestCrashKeepOfMemory(t *testing.T) {
	keep := []bool{false, true, true, true}
	d, _ := newDisk(t, 4)
	for i := range 4 {
		write(t, d, i, block(i))
	}
	d.Crash(keep[:2])
	for i, want := range [][]byte{noughts(), block(1), noughts(), noughts()} {
		checkBlock(t, d, i, want)
	}
	if !slices.Equal(keep, []bool{false, true, true, true}) {
		t.Errorf("keep became %t", keep)
	}
}

// TestCrashOfNothing: 9.4, where nothing waits, nothing changes, whatever keep says.
func TestCrashOfNothing(t *testing.T) {
	d, _ := newDisk(t, 3)
	d.Crash(nil)
	d.Crash([]bool{true, true})
	put(t, d, 1, block(1))
	d.Crash([]bool{false, false})
	d.Crash([]bool{})
	checkCounts(t, d, 2, 0)
	checkRead(t, d, 0, noughts())
	checkRead(t, d, 1, block(1))
	d.Poke(api.Poke{At: 1, Kind: api.PokeBack, N: 1})
	checkRead(t, d, 1, noughts())
}

// TestCrashAsksNoPower: 9.4, it is no step and is not seen, the power is not asked and not brought back, and somebody else does nothing ahead of it.
func TestCrashAsksNoPower(t *testing.T) {
	d, p := newDisk(t, 3)
	write(t, d, 1, block(1))
	write(t, d, 2, block(2))
	d.Plot([]api.Poke{{When: 2, At: 1, Bytes: []byte("x")}, {When: 3, At: 1, Bytes: []byte("y")}})
	p.Fuse(0, false)
	d.Crash([]bool{true})
	if p.Down() || p.Steps() != 2 {
		t.Errorf("down %t, %d steps of the power", p.Down(), p.Steps())
	}
	checkBlock(t, d, 1, block(1))
	checkBlock(t, d, 2, noughts())
	p.Step(func() {})
	d.Crash([]bool{true})
	if !p.Down() {
		t.Error("a crash brought the power back")
	}
	checkBlock(t, d, 1, block(1))
	checkCounts(t, d, 2, 0)
	if n := len(d.Seen()); n != 2 {
		t.Errorf("%d touches", n)
	}
}

// TestCrashTwice: 9.4, what comes behind a crash waits anew, from the first place on.
func TestCrashTwice(t *testing.T) {
	d, _ := newDisk(t, 4)
	write(t, d, 0, block(0))
	write(t, d, 1, block(1))
	d.Crash([]bool{false, true})
	write(t, d, 2, block(2))
	write(t, d, 3, block(3))
	checkCounts(t, d, 4, 2)
	d.Crash([]bool{true, false})
	for i, want := range [][]byte{noughts(), block(1), block(2), noughts()} {
		checkBlock(t, d, i, want)
	}
}

// TestCrashBehindFlush: 9.7, what is flushed stays, whatever a crash loses.
func TestCrashBehindFlush(t *testing.T) {
	for x := range 1 << 4 {
		d, _ := newDisk(t, 4)
		for i := range 4 {
			write(t, d, i, block(i))
		}
		flush(t, d)
		for i := range 4 {
			write(t, d, i, block(10+i))
		}
		d.Crash(bits(x, 4))
		for i := range 4 {
			want := block(i)
			if x>>i&1 == 1 {
				want = block(10 + i)
			}
			checkRead(t, d, i, want)
		}
	}
}

// TestCrashKeepsWholeBlocks: 9.7, behind any crash a block is wholly one of those that were written to it, or what was safe.
func TestCrashKeepsWholeBlocks(t *testing.T) {
	for seed := range 300 {
		d, _ := newDisk(t, 3)
		may := map[int][][]byte{}
		for at := range 3 {
			put(t, d, at, block(1000+at))
			may[at] = [][]byte{block(1000 + at)}
		}
		for i := range 8 {
			at := (seed + i*i) % 3
			write(t, d, at, block(seed*8+i))
			may[at] = append(may[at], block(seed*8+i))
		}
		d.Crash(bits(seed*2654435761>>7, 8))
		for at := range 3 {
			got := d.Look(at)
			if !slices.ContainsFunc(may[at], func(b []byte) bool { return slices.Equal(b, got) }) {
				t.Errorf("row %d: block %d is none that was written", seed, at)
			}
		}
	}
}

// TestLoose: 9.4, it counts writes, though they are of one block.
func TestLoose(t *testing.T) {
	d, _ := newDisk(t, 2)
	for i := range 50 {
		write(t, d, 1, block(i))
		checkCounts(t, d, i+1, i+1)
	}
	flush(t, d)
	checkCounts(t, d, 51, 0)
	write(t, d, 1, block(1))
	checkCounts(t, d, 52, 1)
	d.Crash(nil)
	checkCounts(t, d, 52, 0)
}
