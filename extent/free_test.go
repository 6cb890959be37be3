package extent_test

import (
	"math"
	"slices"
	"testing"

	"deedbox/api"
	"deedbox/extent"
)

// TestFree: 20.3, a text's blocks, and just these, are free once the change is done, and not before; then they are taken for others.
func TestFree(t *testing.T) {
	for _, ideal := range kinds() {
		for which := range 3 {
			for _, size := range sizes() {
				w := made(t, 24+3*blocksOf(size), ideal)
				for i := range 3 {
					w.put(t, size, i)
				}
				y := w.texts[which]
				x := w.begin(t)
				steps := w.p.Steps()
				extent.Free(x, y.run)
				if w.p.Steps() != steps || x.Dirty() != 0 || len(w.free()) != 0 {
					t.Errorf("%v: %d steps, %d pages, free are %v", y.run, w.p.Steps()-steps, x.Dirty(), w.free())
				}
				if run, code := extent.Write(x, w.s, fromOf(9), nil, row(size, 9)); code != api.ErrNoSpace {
					t.Errorf("within the change: %v, code %d", run, code)
				}
				w.check(t)
				commit(t, x)
				w.texts = slices.Delete(w.texts, which, which+1)
				if w.check(t); len(w.free()) != blocksOf(size) {
					t.Errorf("%v: free are %v", y.run, w.free())
				}
				if z := w.put(t, size, 7); z.run != y.run {
					t.Errorf("%v; want %v", z.run, y.run)
				}
				w.check(t)
				w.refuses(t, y, 0, size, api.ErrIntegrity)
			}
		}
	}
}

// TestFreeNotDone: 20.3, a change that is not done frees nothing: left alone, without room for it, or of a root that may not be.
func TestFreeNotDone(t *testing.T) {
	for _, ideal := range kinds() {
		w := made(t, 40, ideal)
		w.put(t, 600, 1)
		w.put(t, 0, 2)
		x := w.begin(t)
		extent.Free(x, w.texts[0].run)
		w.check(t)
		x = w.begin(t)
		extent.Free(x, w.texts[1].run)
		if code := x.Commit(-2); code != api.ErrRange {
			t.Errorf("code %d", code)
		}
		w.check(t)
		commit(t, w.begin(t))
		w.check(t)
	}
}

// TestFreeTwice: 20.3, a run that is freed twice is free, once; so is one of which a part was freed ahead.
func TestFreeTwice(t *testing.T) {
	for _, ideal := range kinds() {
		w := made(t, 40, ideal)
		for i := range 4 {
			w.put(t, 1000, i)
		}
		x := w.begin(t)
		for range 3 {
			extent.Free(x, w.texts[1].run)
		}
		extent.Free(x, extent.Run{At: w.texts[2].run.At + 1, Size: 0})
		extent.Free(x, w.texts[2].run)
		commit(t, x)
		w.texts = []text{w.texts[0], w.texts[3]}
		w.check(t)
		// Behind that there is nothing to be freed: what is free stays so, and what stands beside it is taken.
		x = w.begin(t)
		extent.Free(x, extent.Run{At: 27, Size: 1000})
		extent.Free(x, extent.Run{At: 30, Size: 1000})
		commit(t, x)
		w.check(t)
	}
}

// TestFreeWithin: 20.3, a text that the same change wrote: its blocks are taken till it is done, and free then; those of the others stay.
func TestFreeWithin(t *testing.T) {
	for _, ideal := range kinds() {
		w := made(t, 30, ideal)
		x := w.begin(t)
		a, b, c := w.write(t, x, fromOf(1), nil, row(600, 1)), w.write(t, x, fromOf(2), nil, row(0, 2)), w.write(t, x, fromOf(3), nil, row(992, 3))
		extent.Free(x, a.run)
		extent.Free(x, c.run)
		if y := w.write(t, x, fromOf(4), nil, row(3, 4)); y.run.At != 29 {
			t.Errorf("%v", y.run)
		} else {
			w.texts = []text{b, y}
		}
		if run, code := extent.Write(x, w.s, fromOf(5), nil, nil); code != api.ErrNoSpace {
			t.Errorf("%v, code %d", run, code)
		}
		commit(t, x)
		w.check(t)
	}
}

// TestFreeMany: 20.3, several texts in one change, and others that are written in it.
func TestFreeMany(t *testing.T) {
	for _, ideal := range kinds() {
		w := made(t, 24+60, ideal)
		for i, size := range sizes() {
			w.put(t, size, i)
		}
		for round := range 4 {
			x := w.begin(t)
			var stay []text
			for i, y := range w.texts {
				if i%2 == round%2 {
					extent.Free(x, y.run)
				} else {
					stay = append(stay, y)
				}
			}
			for i := range 4 {
				stay = append(stay, w.write(t, x, fromOf(100+4*round+i), nil, row(300*i, uint32(round))))
			}
			commit(t, x)
			w.texts = stay
			w.check(t)
		}
	}
}

// TestFreeNothing: R5, runs that there are not, that are of the log, or not wholly taken: nothing is freed.
func TestFreeNothing(t *testing.T) {
	w := made(t, 40, true)
	w.put(t, 600, 1)
	w.put(t, 600, 2)
	x := w.begin(t)
	for _, r := range []extent.Run{
		{}, {At: 0, Size: 600}, {At: 23}, {At: 23, Size: 600}, {At: 22, Size: 993},
		{At: 24, Size: -1}, {At: 24, Size: -496}, {At: 24, Size: math.MinInt},
		{At: 28}, {At: 27, Size: 497}, {At: 24, Size: 4*496 + 1}, {At: 24, Size: 16 * 496}, {At: 24, Size: 17 * 496}, {At: 24, Size: math.MaxInt},
		{At: 39}, {At: 40}, {At: 40, Size: 600}, {At: math.MaxInt}, {At: math.MaxInt, Size: math.MaxInt},
		{At: -1}, {At: -1, Size: 600}, {At: -2, Size: 26 * 496}, {At: math.MinInt}, {At: math.MinInt, Size: math.MaxInt}, {At: math.MinInt, Size: math.MinInt},
	} {
		extent.Free(x, r)
	}
	commit(t, x)
	w.check(t)
}
