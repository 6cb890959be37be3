package sheaf_test

import (
	"math"
	"slices"
	"testing"

	"deedbox/api"
	"deedbox/sheaf"
)

// TestBegin: 17.4, epochs are given one by one, each a save of the cell, whatever comes of them; the disk plays no part.
func TestBegin(t *testing.T) {
	v, h := formatted(t, 30, true)
	for i := range 5 {
		x := begin(t, h)
		if x.Epoch() != i+1 || v.c.Writes() != i+2 || v.d.Steps() != 0 || x.Dirty() != 0 {
			t.Errorf("change %d: epoch %d, %d writes, %d steps of the disk, %d pages", i, x.Epoch(), v.c.Writes(), v.d.Steps(), x.Dirty())
		}
		checkAnchor(t, h.Keeper(), api.Anchor{Seq: i + 2, Given: i + 1, Root: -1, Master: masterOf(1)})
	}
	h = v.open(t)
	if x := begin(t, h); x.Epoch() != 6 {
		t.Errorf("opened anew: epoch %d", x.Epoch())
	}
	commit(t, begin(t, h), -1)
	if x := begin(t, h); x.Epoch() != 8 {
		t.Errorf("behind a commit: epoch %d", x.Epoch())
	}
}

// TestBeginCodes: 17.4, the keeper's codes: the power gone at its step, or ahead of it; no epoch left; no number left.
func TestBeginCodes(t *testing.T) {
	for _, done := range []bool{false, true} {
		v, h := formatted(t, 30, true)
		v.p.Fuse(0, done)
		for range 2 {
			if x, code := h.Begin(); x != nil || code != api.ErrDown {
				t.Errorf("the power gone: %t, code %d", x != nil, code)
			}
		}
		v.lose()
		want := 1
		if done {
			want = 2
		}
		if x := begin(t, v.open(t)); x.Epoch() != want {
			t.Errorf("done %t: epoch %d", done, x.Epoch())
		}
	}
	for _, a := range []api.Anchor{
		{Seq: 1, Epoch: 3, Given: api.MaxNum, Root: -1, Master: masterOf(1)},
		{Seq: api.MaxNum, Given: 1, Root: -1, Master: masterOf(1)},
	} {
		v := numbered(t, a)
		h := v.open(t)
		if x, code := h.Begin(); x != nil || code != api.ErrRange {
			t.Errorf("%+v: %t, code %d", a, x != nil, code)
		}
		checkAnchor(t, h.Keeper(), a)
	}
	v := numbered(t, api.Anchor{Seq: 1, Given: api.MaxNum - 1, Root: -1, Master: masterOf(1)})
	h := v.open(t)
	x := begin(t, h)
	takes(t, x, 1, 24)
	store(t, x, 24, pageOf(1))
	commit(t, x, 24)
	loads(t, h, 24, api.MaxNum, pageOf(1))
}

// TestNotCommitted: 17.4, a change that is not committed is as if it had not been: what it took, gave and stored plays no part in the next one, nor for who opens anew.
func TestNotCommitted(t *testing.T) {
	for _, ideal := range kinds() {
		v, h := formatted(t, 34, ideal)
		old := made(t, h, 3, 1)
		a, blocks := last(t, h.Keeper()), state(v.d)
		x := begin(t, h)
		takes(t, x, 2, 27)
		store(t, x, 27, pageOf(11))
		store(t, x, 24, pageOf(12))
		x.Give(25, 2)
		if !slices.Equal(free(h), run(27, 7)) || v.d.Loose() != 0 {
			t.Errorf("free are %v, %d writes wait", free(h), v.d.Loose())
		}
		checkState(t, v.d, blocks)
		y := begin(t, h)
		if y.Dirty() != 0 {
			t.Errorf("%d pages", y.Dirty())
		}
		refuses(t, y, 24, y.Epoch(), api.ErrNone)
		refuses(t, y, 27, y.Epoch(), api.ErrNone)
		takes(t, y, 1, 27)
		store(t, y, 26, pageOf(13))
		commit(t, y, 24)
		if !slices.Equal(free(h), run(28, 6)) {
			t.Errorf("free are %v", free(h))
		}
		a.Seq, a.Given, a.Epoch, a.Root, a.RootEpoch = a.Seq+4, a.Given+2, y.Epoch(), 24, y.Epoch()
		checkAnchor(t, h.Keeper(), a)
		for _, l := range []*sheaf.Sheaf{h, v.open(t)} {
			loads(t, l, 24, old, pageOf(1))
			loads(t, l, 25, old, pageOf(2))
			loads(t, l, 26, y.Epoch(), pageOf(13))
			refuses(t, l, 24, x.Epoch(), api.ErrIntegrity)
			refuses(t, l, 27, x.Epoch(), api.ErrIntegrity)
		}
		if v.s.Reused() {
			t.Error("a nonce was used twice")
		}
	}
}

// TestTooLate: 17.7, a change behind which a later one was committed is the keeper's code, and nothing of it is there.
func TestTooLate(t *testing.T) {
	v, h := formatted(t, 34, true)
	x, y := begin(t, h), begin(t, h)
	takes(t, y, 1, 24)
	store(t, y, 24, pageOf(2))
	takes(t, x, 2, 24)
	store(t, x, 24, pageOf(1))
	commit(t, y, 24)
	a := last(t, h.Keeper())
	if code := x.Commit(24); code != api.ErrState {
		t.Errorf("code %d", code)
	}
	checkAnchor(t, h.Keeper(), a)
	if !slices.Equal(free(h), run(25, 9)) {
		t.Errorf("free are %v", free(h))
	}
	loads(t, h, 24, y.Epoch(), pageOf(2))
	loads(t, v.open(t), 24, y.Epoch(), pageOf(2))
}

// TestTake: 17.5, runs of free blocks, from the front on, none of them twice; space.Take's codes.
func TestTake(t *testing.T) {
	v, h := formatted(t, 34, true)
	h.Space().Mark(26, 1)
	x := begin(t, h)
	steps := v.p.Steps()
	takes(t, x, 3, 27)
	takes(t, x, 1, 24)
	takes(t, x, 1, 25)
	for _, n := range []int{0, -1, math.MinInt} {
		if at, code := x.Take(n); at != 0 || code != api.ErrArg {
			t.Errorf("Take of %d: %d, code %d", n, at, code)
		}
	}
	for _, n := range []int{5, 6, 34, 4097, math.MaxInt} {
		if at, code := x.Take(n); at != 0 || code != api.ErrNoSpace {
			t.Errorf("Take of %d: %d, code %d", n, at, code)
		}
	}
	takes(t, x, 4, 30)
	if at, code := x.Take(1); at != 0 || code != api.ErrNoSpace {
		t.Errorf("Take of a full disk: %d, code %d", at, code)
	}
	if v.p.Steps() != steps {
		t.Errorf("%d steps", v.p.Steps()-steps)
	}
	if !slices.Equal(free(h), append([]int{24, 25}, run(27, 7)...)) {
		t.Errorf("ahead of the commit free are %v", free(h))
	}
	commit(t, x, -1)
	if len(free(h)) != 0 {
		t.Errorf("behind the commit free are %v", free(h))
	}
	y := begin(t, h)
	if at, code := y.Take(1); at != 0 || code != api.ErrNoSpace {
		t.Errorf("the next change takes %d, code %d", at, code)
	}
}

// TestTakeAll: 17.5, all blocks behind the log, at once, one by one, and where there is none.
func TestTakeAll(t *testing.T) {
	_, h := formatted(t, 4096, true)
	x := begin(t, h)
	takes(t, x, 4072, 24)
	commit(t, x, -1)
	if len(free(h)) != 0 {
		t.Errorf("%d are free", len(free(h)))
	}
	_, h = formatted(t, 300, true)
	x = begin(t, h)
	for i := range 276 {
		takes(t, x, 1, 24+i)
	}
	commit(t, x, -1)
	if len(free(h)) != 0 {
		t.Errorf("%d are free", len(free(h)))
	}
	_, h = formatted(t, 24, true)
	x = begin(t, h)
	if at, code := x.Take(1); at != 0 || code != api.ErrNoSpace {
		t.Errorf("%d, code %d", at, code)
	}
	commit(t, x, -1)
}

// TestGive: 17.5, a run is free when the change is done, and not before, not even for the change.
func TestGive(t *testing.T) {
	v, h := formatted(t, 30, true)
	made(t, h, 6, 1)
	x := begin(t, h)
	steps := v.p.Steps()
	x.Give(25, 3)
	if at, code := x.Take(1); at != 0 || code != api.ErrNoSpace || len(free(h)) != 0 {
		t.Errorf("given, and taken once more: %d, code %d; free are %v", at, code, free(h))
	}
	if v.p.Steps() != steps {
		t.Errorf("%d steps", v.p.Steps()-steps)
	}
	commit(t, x, 24)
	if !slices.Equal(free(h), run(25, 3)) {
		t.Errorf("free are %v", free(h))
	}
	takes(t, begin(t, h), 3, 25)
}

// TestGiveWhatItTook: 17.5, what the change itself took is given likewise.
func TestGiveWhatItTook(t *testing.T) {
	_, h := formatted(t, 30, true)
	x := begin(t, h)
	takes(t, x, 4, 24)
	x.Give(25, 2)
	takes(t, x, 1, 28)
	commit(t, x, -1)
	if !slices.Equal(free(h), []int{25, 26, 29}) {
		t.Errorf("free are %v", free(h))
	}
}

// TestGivePages: 17.5, pages that the change stored in the run are not stored, those beside it are.
func TestGivePages(t *testing.T) {
	for _, ideal := range kinds() {
		_, h := formatted(t, 34, ideal)
		old := made(t, h, 6, 1)
		x := begin(t, h)
		takes(t, x, 2, 30)
		for i := range 8 {
			store(t, x, 24+i, pageOf(11+i))
		}
		x.Give(26, 2)
		x.Give(31, 1)
		if x.Dirty() != 5 {
			t.Errorf("%d pages", x.Dirty())
		}
		for _, i := range []int{2, 3, 7} {
			refuses(t, x, 24+i, x.Epoch(), api.ErrNone)
		}
		loads(t, x, 26, old, pageOf(3))
		for _, i := range []int{0, 1, 4, 5, 6} {
			loads(t, x, 24+i, x.Epoch(), pageOf(11+i))
		}
		commit(t, x, 24)
		for i := range 8 {
			if i == 2 || i == 3 || i == 7 {
				refuses(t, h, 24+i, x.Epoch(), api.ErrIntegrity)
			} else {
				loads(t, h, 24+i, x.Epoch(), pageOf(11+i))
			}
		}
		loads(t, h, 26, old, pageOf(3))
		if !slices.Equal(free(h), []int{26, 27, 31, 32, 33}) {
			t.Errorf("free are %v", free(h))
		}
	}
}

// TestGiveTwice: 17.5, runs that are given twice, or that have blocks in common: each block of them is free, once.
func TestGiveTwice(t *testing.T) {
	_, h := formatted(t, 34, true)
	made(t, h, 8, 1)
	x := begin(t, h)
	x.Give(25, 2)
	x.Give(25, 2)
	x.Give(26, 3)
	x.Give(24, 3)
	x.Give(30, 1)
	commit(t, x, -1)
	if !slices.Equal(free(h), append(run(24, 5), 30, 32, 33)) {
		t.Errorf("free are %v", free(h))
	}
}

// TestGiveNothing: R5, runs that there are not, that are of the log, or not taken, are not given; what is stored stays.
func TestGiveNothing(t *testing.T) {
	_, h := formatted(t, 34, true)
	made(t, h, 4, 1)
	x := begin(t, h)
	for i := range 4 {
		store(t, x, 24+i, pageOf(11+i))
	}
	for _, r := range [][2]int{
		{24, 0}, {24, -1}, {24, math.MinInt}, {25, -1}, {28, 1}, {27, 2}, {24, 5}, {24, 10}, {24, 11}, {24, 4096}, {24, math.MaxInt}, {26, math.MaxInt - 25},
		{0, 1}, {0, 24}, {23, 1}, {23, 2}, {0, 34}, {-1, 1}, {-1, 40}, {33, 1}, {34, 1}, {34, 2}, {math.MaxInt, 1}, {math.MaxInt, math.MaxInt}, {math.MinInt, 1}, {math.MinInt, math.MaxInt}, {math.MinInt, math.MinInt},
	} {
		x.Give(r[0], r[1])
		if x.Dirty() != 4 {
			t.Fatalf("given %v: %d pages", r, x.Dirty())
		}
	}
	commit(t, x, 24)
	if !slices.Equal(free(h), run(28, 6)) {
		t.Errorf("free are %v", free(h))
	}
}

// TestGiveAll: 17.5, all that is taken is given, at once; the log stays.
func TestGiveAll(t *testing.T) {
	_, h := formatted(t, 4096, true)
	x := begin(t, h)
	takes(t, x, 4072, 24)
	commit(t, x, -1)
	y := begin(t, h)
	y.Give(24, 4072)
	if len(free(h)) != 0 {
		t.Errorf("%d are free ahead of the commit", len(free(h)))
	}
	commit(t, y, -1)
	if !slices.Equal(free(h), run(24, 4072)) {
		t.Errorf("%d are free", len(free(h)))
	}
}

// TestGivenAndDone: 17.7, what is given is free as soon as the anchor is committed, though the power goes behind that, and not if it goes ahead of it.
func TestGivenAndDone(t *testing.T) {
	for step := range 6 {
		for _, done := range []bool{false, true} {
			v, h := formatted(t, 34, true)
			made(t, h, 3, 1)
			x := begin(t, h)
			takes(t, x, 2, 27)
			store(t, x, 24, pageOf(11))
			x.Give(25, 1)
			x.Give(28, 1)
			v.p.Fuse(step, done)
			if code := x.Commit(24); code != api.ErrDown {
				t.Fatalf("step %d: code %d", step, code)
			}
			want := run(27, 7)
			if step > 3 {
				want = append([]int{25}, run(28, 6)...)
			}
			if !slices.Equal(free(h), want) {
				t.Errorf("step %d, done %t: free are %v; want %v", step, done, free(h), want)
			}
		}
	}
}

// TestNotMade: P0, a sheaf and a change that were not made by these calls have nothing: each call ends with a code, and none panics.
func TestNotMade(t *testing.T) {
	h := new(sheaf.Sheaf)
	if h.Keeper() != nil || h.Space() != nil {
		t.Error("a sheaf has a keeper, or a space")
	}
	refuses(t, h, 24, 1, api.ErrRange)
	refuses(t, h, 24, -1, api.ErrArg)
	if b, code := h.Block(24); code != api.ErrRange || len(b) != 0 {
		t.Errorf("Block: %d bytes, code %d", len(b), code)
	}
	if x, code := h.Begin(); x != nil || code != api.ErrNone {
		t.Errorf("Begin: %t, code %d", x != nil, code)
	}
	x := new(sheaf.Tx)
	if at, code := x.Take(1); at != 0 || code != api.ErrNoSpace {
		t.Errorf("Take: %d, code %d", at, code)
	}
	x.Give(24, 1)
	refuses(t, x, 24, 0, api.ErrNone)
	refuses(t, x, 24, 1, api.ErrNone)
	stores(t, x, 24, pageOf(1), api.ErrRange, 0)
	writes(t, x, 24, blockOf(1), api.ErrRange)
	if code := x.Commit(24); code != api.ErrState || x.Epoch() != 0 {
		t.Errorf("Commit: code %d, epoch %d", code, x.Epoch())
	}
}
