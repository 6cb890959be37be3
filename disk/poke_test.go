package disk_test

import (
	"math"
	"testing"

	"deedbox/api"
	"deedbox/disk"
)

func back(at, n int) api.Poke { return api.Poke{At: at, Kind: api.PokeBack, N: n} }

func copyOf(at, n int) api.Poke { return api.Poke{At: at, Kind: api.PokeCopy, N: n} }

func bytesAt(at int, b []byte) api.Poke { return api.Poke{At: at, Kind: api.PokeBytes, Bytes: b} }

// waiting is a disk of four blocks on which each has something safe (10 + its place), and something newer that waits (20 + its place).
func waiting(t *testing.T) *disk.Disk {
	t.Helper()
	d, _ := newDisk(t, 4)
	for at := range 4 {
		write(t, d, at, block(10+at))
	}
	flush(t, d)
	for at := range 4 {
		write(t, d, at, block(20+at))
	}
	checkCounts(t, d, 9, 4)
	return d
}

// checkNothing holds that a disk that was waiting is as it was: what it would be read as, what waits, what is safe, and what was.
func checkNothing(t *testing.T, d *disk.Disk) {
	t.Helper()
	checkCounts(t, d, 9, 4)
	for at := range 4 {
		checkBlock(t, d, at, block(20+at))
	}
	d.Crash(nil)
	for at := range 4 {
		checkBlock(t, d, at, block(10+at))
		d.Poke(back(at, 1))
		checkBlock(t, d, at, noughts())
	}
}

// checkPoked holds that block 1 of a disk that was waiting became this, and is safe, that no write of it waits, and that the other blocks are as they were.
func checkPoked(t *testing.T, d *disk.Disk, want []byte) {
	t.Helper()
	checkCounts(t, d, 9, 3)
	checkBlock(t, d, 1, want)
	for _, at := range []int{0, 2, 3} {
		checkBlock(t, d, at, block(20+at))
	}
	d.Crash(nil)
	checkBlock(t, d, 1, want)
	for _, at := range []int{0, 2, 3} {
		checkBlock(t, d, at, block(10+at))
	}
	d.Poke(back(1, 1))
	checkBlock(t, d, 1, block(11))
}

// TestPokeBytes: 9.5, of all lengths: cut at a block's end, or with noughts behind.
func TestPokeBytes(t *testing.T) {
	long := append(block(1), block(2)...)
	for length := range len(long) + 1 {
		d := waiting(t)
		d.Poke(bytesAt(1, long[:length]))
		want := noughts()
		copy(want, long[:length])
		checkPoked(t, d, want)
	}
	d := waiting(t)
	d.Poke(bytesAt(1, nil))
	checkPoked(t, d, noughts())
}

// TestPokeBytesWithMore: 9.5, N, When and kinds of other pokes are of no matter to bytes.
func TestPokeBytesWithMore(t *testing.T) {
	for _, n := range []int{math.MinInt, -1, 0, 1, 2, 3, 4, math.MaxInt} {
		d := waiting(t)
		d.Poke(api.Poke{When: n, At: 1, Kind: api.PokeBytes, Bytes: block(5), N: n})
		checkPoked(t, d, block(5))
	}
}

// TestPokeCopy: 9.5, a block is what another would be read as: what waits there, or what is safe; that one is as it was.
func TestPokeCopy(t *testing.T) {
	for n := range 4 {
		d := waiting(t)
		d.Poke(api.Poke{When: 77, At: 1, Kind: api.PokeCopy, Bytes: block(5), N: n})
		checkPoked(t, d, block(20+n))
	}
	d := waiting(t)
	d.Crash(nil)
	d.Poke(copyOf(1, 3))
	d.Poke(copyOf(0, 1))
	for at, want := range [][]byte{block(13), block(13), block(12), block(13)} {
		checkBlock(t, d, at, want)
	}
	put(t, d, 3, block(7))
	checkBlock(t, d, 1, block(13))
	newer, _ := newDisk(t, 3)
	put(t, newer, 1, block(1))
	newer.Poke(copyOf(1, 2))
	checkBlock(t, newer, 1, noughts())
}

// TestPokeCopyOfNone: 9.5, where there is no block to be copied, nothing is done: what waits waits on.
func TestPokeCopyOfNone(t *testing.T) {
	for _, n := range wrongPlaces(4) {
		d := waiting(t)
		d.Poke(copyOf(1, n))
		checkNothing(t, d)
	}
}

// TestPokeOfNone: 9.5, where there is no block, nothing is done, of whatever kind.
func TestPokeOfNone(t *testing.T) {
	for _, at := range wrongPlaces(4) {
		d := waiting(t)
		d.Poke(bytesAt(at, block(1)))
		for n := range 4 {
			d.Poke(copyOf(at, n))
			d.Poke(back(at, n))
		}
		checkNothing(t, d)
	}
}

// TestPokeOtherKinds: 9.5, kinds that there are not do nothing.
func TestPokeOtherKinds(t *testing.T) {
	for _, kind := range []int{math.MinInt, -3, -2, -1, 3, 4, 5, 256, math.MaxInt32, math.MaxInt} {
		d := waiting(t)
		d.Poke(api.Poke{At: 1, Kind: kind, Bytes: block(1), N: 0})
		d.Poke(api.Poke{At: 1, Kind: kind, Bytes: block(1), N: 2})
		checkNothing(t, d)
	}
}

// TestPokeBackByNought: 9.5, a block is as it is safe now: what waits is lost.
func TestPokeBackByNought(t *testing.T) {
	d := waiting(t)
	d.Poke(api.Poke{When: 77, At: 1, Kind: api.PokeBack, Bytes: block(5), N: 0})
	checkPoked(t, d, block(11))
	newer, _ := newDisk(t, 2)
	write(t, newer, 1, block(1))
	newer.Poke(back(1, 0))
	checkBlock(t, newer, 1, noughts())
	checkCounts(t, newer, 1, 0)
}

// TestPokeBackBelowNought: 9.5, R5, below 0 there is nothing that it was: nothing is done.
func TestPokeBackBelowNought(t *testing.T) {
	for _, n := range []int{-1, -2, -3, math.MinInt32, math.MinInt + 1, math.MinInt} {
		d := waiting(t)
		d.Poke(back(1, n))
		checkNothing(t, d)
	}
}

// TestPokeBack: 9.5, by each number of changes, up to more than there were, what waits being none of them.
func TestPokeBack(t *testing.T) {
	const changes = 12
	for n := range 2 * changes {
		d, _ := newDisk(t, 3)
		for i := range changes {
			put(t, d, 1, block(i))
			put(t, d, 2, block(50+i))
		}
		write(t, d, 1, block(99))
		d.Poke(back(1, n))
		want := noughts()
		if n < changes {
			want = block(changes - 1 - n)
		}
		checkBlock(t, d, 1, want)
		checkBlock(t, d, 2, block(50+changes-1))
		checkBlock(t, d, 0, noughts())
		checkCounts(t, d, 4*changes+1, 0)
		d.Crash(nil)
		checkBlock(t, d, 1, want)
	}
}

// TestPokeBackByTooMany: 9.5, noughts, if there were not as many changes, up to the greatest number.
func TestPokeBackByTooMany(t *testing.T) {
	for _, n := range []int{2, 3, 4, 1000, math.MaxInt32, math.MaxInt - 1, math.MaxInt} {
		d := waiting(t)
		d.Poke(back(1, n))
		checkPoked(t, d, noughts())
		newer, _ := newDisk(t, 2)
		newer.Poke(back(1, n))
		checkBlock(t, newer, 1, noughts())
	}
}

// TestPokeBackOfOneFlush: 9.3, 9.5, writes of one block are safe one behind the other: each is a change.
func TestPokeBackOfOneFlush(t *testing.T) {
	for n := range 6 {
		d, _ := newDisk(t, 2)
		for i := range 4 {
			write(t, d, 1, block(i))
		}
		flush(t, d)
		d.Poke(back(1, n))
		want := noughts()
		if n < 4 {
			want = block(3 - n)
		}
		checkBlock(t, d, 1, want)
	}
}

// TestPokeBackOfCrash: 9.4, 9.5, what a crash kept was safe, what it lost never was.
func TestPokeBackOfCrash(t *testing.T) {
	for n := range 6 {
		d, _ := newDisk(t, 2)
		put(t, d, 1, block(10))
		for i := range 4 {
			write(t, d, 1, block(i))
		}
		d.Crash([]bool{true, false, true, false})
		d.Poke(back(1, n))
		want := noughts()
		if was := []int{2, 0, 10}; n < len(was) {
			want = block(was[n])
		}
		checkBlock(t, d, 1, want)
	}
}

// TestPokeBackOfPokes: 9.5, what somebody else did was safe, too, and is a change, of whatever kind, also where it is what it was.
func TestPokeBackOfPokes(t *testing.T) {
	for n := range 10 {
		d, _ := newDisk(t, 3)
		put(t, d, 2, block(20))
		put(t, d, 1, block(1))
		d.Poke(bytesAt(1, block(2)))
		d.Poke(copyOf(1, 2))
		d.Poke(back(1, 2))              // block 1
		d.Poke(back(1, 0))              // as it is
		d.Poke(bytesAt(0, []byte("x"))) // no change of block 1
		d.Poke(back(1, -1))             // none at all
		d.Poke(copyOf(1, 3))            // none at all
		d.Poke(bytesAt(1, block(1)))
		d.Poke(back(1, n))
		want := noughts()
		if was := []int{1, 1, 1, 20, 2, 1}; n < len(was) {
			want = block(was[n])
		}
		checkBlock(t, d, 1, want)
	}
}

// TestPokeBackOfSame: 9.5, a write of the same bytes is a change as any other one.
func TestPokeBackOfSame(t *testing.T) {
	d, _ := newDisk(t, 2)
	put(t, d, 1, block(1))
	put(t, d, 1, block(2))
	put(t, d, 1, block(2))
	d.Poke(back(1, 1))
	checkBlock(t, d, 1, block(2))
	d.Poke(back(1, 3))
	checkBlock(t, d, 1, block(1))
}

// TestPokeOfManyThatWait: 9.5, no write of the block waits then, wherever it stood; the others wait on, in order, at the places that are left.
func TestPokeOfManyThatWait(t *testing.T) {
	places := []int{1, 2, 1, 3, 2, 1, 0, 1}
	for _, x := range []api.Poke{bytesAt(1, block(30)), copyOf(1, 2), back(1, 0), back(1, 4)} {
		for keepBits := range 1 << 4 {
			d, _ := newDisk(t, 4)
			put(t, d, 1, block(40))
			for i, at := range places {
				write(t, d, at, block(i))
			}
			checkCounts(t, d, 10, 8)
			d.Poke(x)
			checkCounts(t, d, 10, 4)
			one := d.Look(1)
			d.Crash(bits(keepBits, 4))
			want := [][]byte{noughts(), one, noughts(), noughts()}
			for place, i := range []int{1, 3, 4, 6} {
				if keepBits>>place&1 == 1 {
					want[places[i]] = block(i)
				}
			}
			for at, b := range want {
				checkBlock(t, d, at, b)
			}
		}
	}
}

// TestPokeIsNoStep: 9.5, it is no step, is not seen, and needs no power.
func TestPokeIsNoStep(t *testing.T) {
	d, p := newDisk(t, 3)
	write(t, d, 1, block(1))
	p.Fuse(0, true)
	for range 3 {
		d.Poke(bytesAt(1, block(2)))
		d.Poke(copyOf(2, 1))
		d.Poke(back(0, 1))
	}
	if p.Down() || p.Steps() != 1 || len(d.Seen()) != 1 {
		t.Errorf("down %t, %d steps of the power, %d touches", p.Down(), p.Steps(), len(d.Seen()))
	}
	p.Step(func() {})
	d.Poke(bytesAt(1, block(3)))
	checkBlock(t, d, 1, block(3))
	checkBlock(t, d, 2, block(2))
	checkCounts(t, d, 1, 0)
}

// TestWriteBehindPoke: 9.5, what is written then waits again, and is lost, or safe, as ever.
func TestWriteBehindPoke(t *testing.T) {
	d, _ := newDisk(t, 2)
	d.Poke(bytesAt(1, block(1)))
	write(t, d, 1, block(2))
	checkBlock(t, d, 1, block(2))
	d.Crash(nil)
	checkBlock(t, d, 1, block(1))
	put(t, d, 1, block(3))
	d.Crash(nil)
	checkBlock(t, d, 1, block(3))
	d.Poke(back(1, 1))
	checkBlock(t, d, 1, block(1))
}
