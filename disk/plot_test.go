package disk_test

import (
	"math"
	"testing"

	"deedbox/api"
	"deedbox/disk"
)

// ahead is a poke ahead of the step of that number.
func ahead(when int, x api.Poke) api.Poke {
	x.When = when
	return x
}

// doSteps does so many steps on block 0, one of each kind in turn.
func doSteps(t *testing.T, d *disk.Disk, n int) {
	t.Helper()
	for range n {
		switch d.Steps() % 3 {
		case 0:
			write(t, d, 0, block(0))
		case 1:
			flush(t, d)
		default:
			checkRead(t, d, 0, block(0))
		}
	}
}

// TestPlotWhen: 9.5, it is done ahead of the step of its number, of whichever kind that step is, neither sooner nor later, however many steps there were when it was said.
func TestPlotWhen(t *testing.T) {
	for before := range 5 {
		for when := range 12 {
			d, _ := newDisk(t, 3)
			doSteps(t, d, before)
			d.Plot([]api.Poke{ahead(when, bytesAt(1, block(1)))})
			for i := before; i < 14; i++ {
				want := noughts()
				if when >= before && i > when {
					want = block(1)
				}
				checkBlock(t, d, 1, want)
				doSteps(t, d, 1)
			}
		}
	}
}

// TestPlotIsAheadOfRead: 9.5, 9.3, what is read is what somebody else made of it ahead of that step.
func TestPlotIsAheadOfRead(t *testing.T) {
	d, _ := newDisk(t, 3)
	put(t, d, 1, block(1))
	put(t, d, 1, block(2))
	d.Plot([]api.Poke{ahead(4, back(1, 1)), ahead(5, bytesAt(1, []byte("ab")))})
	checkRead(t, d, 1, block(1))
	checkRead(t, d, 1, append([]byte("ab"), make([]byte, api.Block-2)...))
	checkCounts(t, d, 6, 0)
}

// TestPlotIsAheadOfWrite: 9.5, a write is behind it, and waits.
func TestPlotIsAheadOfWrite(t *testing.T) {
	d, _ := newDisk(t, 3)
	write(t, d, 1, block(1))
	d.Plot([]api.Poke{ahead(1, bytesAt(1, block(2)))})
	write(t, d, 1, block(3))
	checkBlock(t, d, 1, block(3))
	checkCounts(t, d, 2, 1)
	d.Crash(nil)
	checkBlock(t, d, 1, block(2))
}

// TestPlotIsAheadOfFlush: 9.5, what somebody else had not wait any more is not flushed.
func TestPlotIsAheadOfFlush(t *testing.T) {
	d, _ := newDisk(t, 3)
	write(t, d, 1, block(1))
	write(t, d, 2, block(2))
	d.Plot([]api.Poke{ahead(2, back(1, 0))})
	flush(t, d)
	checkBlock(t, d, 1, noughts())
	checkBlock(t, d, 2, block(2))
	checkCounts(t, d, 3, 0)
}

// TestPlotInOrder: 9.5, what is done ahead of one step is done in order, though others stand in between.
func TestPlotInOrder(t *testing.T) {
	d, _ := newDisk(t, 3)
	d.Plot([]api.Poke{
		ahead(1, bytesAt(1, block(9))),
		ahead(0, bytesAt(1, block(1))),
		ahead(0, copyOf(2, 1)),
		ahead(2, bytesAt(2, block(8))),
		ahead(0, bytesAt(1, block(2))),
		ahead(0, back(0, 0)),
	})
	flush(t, d)
	checkBlock(t, d, 1, block(2))
	checkBlock(t, d, 2, block(1))
	flush(t, d)
	checkBlock(t, d, 1, block(9))
	checkBlock(t, d, 2, block(1))
	flush(t, d)
	checkBlock(t, d, 1, block(9))
	checkBlock(t, d, 2, block(8))
}

// TestPlotOfManySteps: 9.5, all of a long plot is done, each ahead of its own step, whatever the order in which they stand.
func TestPlotOfManySteps(t *testing.T) {
	const n = 500
	var l []api.Poke
	for i := range n {
		when := i * 7 % n
		l = append(l, ahead(when, bytesAt(when%5, block(when))))
	}
	d, _ := newDisk(t, 5)
	d.Plot(l)
	for i := range n {
		checkRead(t, d, i%5, block(i))
	}
	checkCounts(t, d, n, 0)
}

// TestPlotOfNone: 9.5, steps that never come, or that were there before, do nothing; nor do pokes that do nothing.
func TestPlotOfNone(t *testing.T) {
	d, _ := newDisk(t, 2)
	doSteps(t, d, 3)
	var l []api.Poke
	for _, when := range []int{math.MinInt, -2, -1, 0, 1, 2, 40, math.MaxInt} {
		l = append(l, ahead(when, bytesAt(1, block(1))))
	}
	for _, at := range wrongPlaces(2) {
		l = append(l, ahead(3, bytesAt(at, block(1))), ahead(3, copyOf(1, at)))
	}
	l = append(l, ahead(4, api.Poke{At: 1, Kind: 3}), ahead(4, back(1, -1)))
	d.Plot(l)
	doSteps(t, d, 20)
	checkBlock(t, d, 1, noughts())
}

// TestPlotOfRefusedSteps: 9.3, 9.5, what is refused for its arguments is no step: nothing is done ahead of it.
func TestPlotOfRefusedSteps(t *testing.T) {
	d, _ := newDisk(t, 2)
	d.Plot([]api.Poke{ahead(0, bytesAt(1, block(1)))})
	d.Read(2)
	d.Write(-1, block(2))
	d.Write(1, nil)
	checkBlock(t, d, 1, noughts())
	checkRead(t, d, 1, block(1))
}

// TestPlotAsThePowerGoes: 9.5, ahead of the step at which the power goes it is done, too, be that step done or not; that step is over then.
func TestPlotAsThePowerGoes(t *testing.T) {
	for _, done := range []bool{false, true} {
		d, p := newDisk(t, 2)
		d.Plot([]api.Poke{ahead(0, bytesAt(1, block(1)))})
		p.Fuse(0, done)
		if code := d.Flush(); code != api.ErrDown {
			t.Errorf("code %d", code)
		}
		checkBlock(t, d, 1, block(1))
		d.Poke(bytesAt(1, block(2)))
		if code := d.Flush(); code != api.ErrDown {
			t.Errorf("code %d", code)
		}
		p.Back()
		flush(t, d)
		checkBlock(t, d, 1, block(2))
		checkCounts(t, d, 2, 0)
	}
}

// TestPlotOnceMore: 9.5, where the power is not there, it is done at each try of the step, of each kind, and once more at the one that is done.
func TestPlotOnceMore(t *testing.T) {
	tries := []func(d *disk.Disk) api.Code{
		func(d *disk.Disk) api.Code { _, code := d.Read(1); return code },
		func(d *disk.Disk) api.Code { return d.Write(0, block(5)) },
		func(d *disk.Disk) api.Code { return d.Flush() },
	}
	d, p := newDisk(t, 2)
	put(t, d, 1, block(1))
	d.Plot([]api.Poke{ahead(3, back(1, 1)), ahead(4, bytesAt(1, block(4)))})
	p.Fuse(0, true)
	if code := d.Flush(); code != api.ErrDown {
		t.Fatalf("code %d", code)
	}
	checkBlock(t, d, 1, block(1))
	// What it was one change ago is now this, now that.
	want, other := noughts(), block(1)
	for i := range 9 {
		if code := tries[i%3](d); code != api.ErrDown {
			t.Errorf("try %d: code %d", i, code)
		}
		checkBlock(t, d, 1, want)
		checkCounts(t, d, 3, 0)
		want, other = other, want
	}
	p.Back()
	checkRead(t, d, 1, want)
	checkCounts(t, d, 4, 0)
	checkRead(t, d, 1, block(4))
}

// TestLaterPlot: 9.5, a later one takes the place of all that is still to come, and of what is done once more.
func TestLaterPlot(t *testing.T) {
	d, p := newDisk(t, 3)
	d.Plot([]api.Poke{ahead(0, bytesAt(1, block(1))), ahead(1, bytesAt(1, block(2))), ahead(2, bytesAt(1, block(3)))})
	flush(t, d)
	checkBlock(t, d, 1, block(1))
	d.Plot([]api.Poke{ahead(2, bytesAt(2, block(4)))})
	flush(t, d)
	checkBlock(t, d, 1, block(1))
	checkBlock(t, d, 2, noughts())
	flush(t, d)
	checkBlock(t, d, 1, block(1))
	checkBlock(t, d, 2, block(4))
	d.Plot([]api.Poke{ahead(4, bytesAt(1, block(5)))})
	p.Fuse(0, false)
	d.Flush()
	d.Flush()
	checkBlock(t, d, 1, block(5))
	d.Poke(bytesAt(1, block(6)))
	d.Plot(nil)
	d.Flush()
	p.Back()
	flush(t, d)
	checkBlock(t, d, 1, block(6))
	checkCounts(t, d, 5, 0)
}

// TestPlotIsNoStep: 9.5, to say what is done is no step, and does nothing yet; a crash leaves it.
func TestPlotIsNoStep(t *testing.T) {
	d, p := newDisk(t, 2)
	write(t, d, 1, block(1))
	d.Plot([]api.Poke{ahead(1, bytesAt(0, block(2)))})
	checkCounts(t, d, 1, 1)
	checkBlock(t, d, 0, noughts())
	if p.Steps() != 1 || len(d.Seen()) != 1 {
		t.Errorf("%d steps of the power, %d touches", p.Steps(), len(d.Seen()))
	}
	d.Crash(nil)
	checkBlock(t, d, 0, noughts())
	checkRead(t, d, 0, block(2))
}
