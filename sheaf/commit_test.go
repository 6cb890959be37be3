package sheaf_test

import (
	"bytes"
	"math"
	"slices"
	"testing"

	"deedbox/api"
	"deedbox/redo"
	"deedbox/sheaf"
)

// wrote is what is seen of a disk behind a commit of pages: they are noted, the head behind them, and flushed; written where they belong, and flushed.
func wrote(v *devices, pages []int) []api.Touch {
	var noted, applied []api.Touch
	for i, page := range pages {
		noted = append(noted, api.Touch{Kind: api.TouchWrite, At: 1 + i, Bytes: v.d.Look(page)})
		applied = append(applied, api.Touch{Kind: api.TouchWrite, At: page, Bytes: v.d.Look(page)})
	}
	flush := api.Touch{Kind: api.TouchFlush, At: -1}
	noted = append(noted, api.Touch{Kind: api.TouchWrite, Bytes: v.d.Look(0)}, flush)
	return append(append(noted, applied...), flush)
}

// TestCommit: 17.7, pages are sealed by rising blocks, in whatever order they were stored; noted, the anchor committed, and written where they belong; then none waits.
func TestCommit(t *testing.T) {
	for _, ideal := range kinds() {
		for n := range redo.Most + 1 {
			v, h := formatted(t, 60, ideal)
			x := begin(t, h)
			takes(t, x, 36, 24)
			var pages []int
			for i := range n {
				page := 24 + (i*7+5)%36
				pages = append(pages, page)
				store(t, x, page, pageOf(page))
			}
			slices.Sort(pages)
			a, seen, cells := last(t, h.Keeper()), len(v.d.Seen()), v.c.Writes()
			commit(t, x, 30)
			if !sameTouches(v.d.Seen()[seen:], wrote(v, pages)) || v.d.Loose() != 0 {
				t.Errorf("%d pages: %d touches, %d wait", n, len(v.d.Seen())-seen, v.d.Loose())
			}
			more := min(n, 1)
			if v.c.Writes() != cells+1+more || v.s.Sealed() != n+1 {
				t.Errorf("%d pages: %d writes of the cell, %d sealed", n, v.c.Writes()-cells, v.s.Sealed())
			}
			a.Seq, a.Epoch, a.Root, a.RootEpoch = a.Seq+1+more, 1, 30, 1
			checkAnchor(t, h.Keeper(), a)
			checkAnchor(t, v.keeper(t), a)
			checkSealed(t, v, 1, pages)
			if v.s.Reused() || v.s.Forged() {
				t.Errorf("%d pages: reused %t, forged %t", n, v.s.Reused(), v.s.Forged())
			}
		}
	}
}

// checkSealed holds the pages of an epoch on the disk, each of its own seed, and the log's head, against the chapter's words; for real against Go's own library, too.
func checkSealed(t *testing.T, v *devices, epoch int, pages []int) {
	t.Helper()
	head := v.d.Look(0)[:18+2*len(pages)]
	b, code := v.s.Open(v.s.Derive(masterOf(1), []byte("log")), logNonce(epoch), logBeside(epoch), head)
	if code != api.OK || !bytes.Equal(b, headOf(pages...)) {
		t.Errorf("the head is %x, code %d", b, code)
	}
	for _, page := range pages {
		b, code := v.s.Open(v.s.Derive(masterOf(1), []byte("page")), nonceOf(page, epoch), besideOf(page), v.d.Look(page))
		if code != api.OK || !bytes.Equal(b, pageOf(page)) {
			t.Errorf("page %d: %d bytes, code %d", page, len(b), code)
		}
		if !v.s.Ideal() && !bytes.Equal(v.d.Look(page), library(t, derived(t, masterOf(1), "page")).Seal(nil, nonceOf(page, epoch), pageOf(page), besideOf(page))) {
			t.Errorf("page %d is not as the library seals it", page)
		}
	}
	if !v.s.Ideal() && !bytes.Equal(head, library(t, derived(t, masterOf(1), "log")).Seal(nil, logNonce(epoch), headOf(pages...), logBeside(epoch))) {
		t.Error("the head is not as the library seals it")
	}
}

// TestCommitOrder: 17.7, ideally what is sealed is numbered: that of a lower block has a lower number.
func TestCommitOrder(t *testing.T) {
	v, h := formatted(t, 60, true)
	x := begin(t, h)
	takes(t, x, 36, 24)
	for i := range 20 {
		store(t, x, 59-i, pageOf(i))
	}
	commit(t, x, -1)
	for page := 41; page < 60; page++ {
		if bytes.Compare(v.d.Look(page - 1)[:8], v.d.Look(page)[:8]) >= 0 {
			t.Errorf("page %d was sealed ahead of %d", page, page-1)
		}
	}
	if bytes.Compare(v.d.Look(59)[:8], v.d.Look(0)[:8]) >= 0 {
		t.Error("the head was sealed ahead of a page")
	}
}

// TestCommitKeeps: 17.7, keys of buckets, and the epoch that was given, stay as they are in the anchor.
func TestCommitKeeps(t *testing.T) {
	_, h := formatted(t, 34, true)
	begin(t, h)
	x := begin(t, h)
	takes(t, x, 1, 24)
	store(t, x, 24, pageOf(1))
	a := last(t, h.Keeper())
	a.Keks = []api.Kek{{Bucket: 1, Gen: 2, Key: row(32, 9)}, {Bucket: 3, Key: row(32, 10)}}
	if code := h.Keeper().Save(a); code != api.OK {
		t.Fatalf("Save: code %d", code)
	}
	commit(t, x, 24)
	a.Seq, a.Epoch, a.Root, a.RootEpoch = a.Seq+3, 2, 24, 2
	checkAnchor(t, h.Keeper(), a)
}

// TestCommitTwice: 17.7, a change is committed once, whatever came of that; nothing is done the second time.
func TestCommitTwice(t *testing.T) {
	v, h := formatted(t, 60, true)
	x := begin(t, h)
	takes(t, x, 30, 24)
	store(t, x, 24, pageOf(1))
	commit(t, x, 24)
	steps, sealed, a := v.p.Steps(), v.s.Sealed(), last(t, h.Keeper())
	for i := range 25 {
		x.Store(24+i, pageOf(i))
		if code := x.Commit(25); code != api.ErrState {
			t.Errorf("with %d pages: code %d", i+1, code)
		}
	}
	if v.p.Steps() != steps || v.s.Sealed() != sealed {
		t.Errorf("%d steps, %d sealed", v.p.Steps()-steps, v.s.Sealed()-sealed)
	}
	checkAnchor(t, h.Keeper(), a)
	loads(t, h, 24, x.Epoch(), pageOf(1))
}

// TestCommitTwiceBehindCodes: 17.7, behind a commit that was ErrDown at any step, or ErrRange, the second one is ErrState: no nonce is used twice.
func TestCommitTwiceBehindCodes(t *testing.T) {
	for _, ideal := range kinds() {
		for step := range 8 {
			v, h := formatted(t, 34, ideal)
			x := begin(t, h)
			takes(t, x, 2, 24)
			store(t, x, 24, pageOf(1))
			store(t, x, 25, pageOf(2))
			v.p.Fuse(step, step%2 == 0)
			if code := x.Commit(24); code != api.ErrDown {
				t.Fatalf("step %d: code %d", step, code)
			}
			if code := x.Commit(24); code != api.ErrState {
				t.Errorf("step %d: the second time: code %d", step, code)
			}
			v.lose()
			store(t, x, 24, pageOf(3))
			if code := x.Commit(24); code != api.ErrState {
				t.Errorf("step %d: the third time: code %d", step, code)
			}
			if v.s.Reused() || v.s.Sealed() != 3 {
				t.Errorf("step %d: reused %t, %d sealed", step, v.s.Reused(), v.s.Sealed())
			}
		}
	}
}

// TestCommitFull: 17.7, more pages than the log has room for: nothing is done, and the change goes on; with as many as that it is committed.
func TestCommitFull(t *testing.T) {
	for _, ideal := range kinds() {
		v, h := formatted(t, 100, ideal)
		x := begin(t, h)
		takes(t, x, 70, 24)
		for i := range 60 {
			store(t, x, 24+i, pageOf(i))
		}
		steps, a := v.p.Steps(), last(t, h.Keeper())
		for i := range 37 {
			for range 2 {
				if code := x.Commit(24); code != api.ErrFull {
					t.Fatalf("%d pages: code %d", x.Dirty(), code)
				}
			}
			x.Give(83-i, 1)
		}
		if v.p.Steps() != steps || v.s.Sealed() != 0 || x.Dirty() != 23 {
			t.Errorf("%d steps, %d sealed, %d pages", v.p.Steps()-steps, v.s.Sealed(), x.Dirty())
		}
		checkAnchor(t, h.Keeper(), a)
		commit(t, x, 24)
		if code := x.Commit(24); code != api.ErrState {
			t.Errorf("once more: code %d", code)
		}
		for i := range 23 {
			loads(t, h, 24+i, x.Epoch(), pageOf(i))
		}
		if !slices.Equal(free(h), append(run(47, 37), run(94, 6)...)) || v.s.Reused() {
			t.Errorf("free are %v, reused %t", free(h), v.s.Reused())
		}
	}
}

// TestCommitFullAhead: 17.7 and R6, ErrFull is ahead of what else may be wrong: the root, the power.
func TestCommitFullAhead(t *testing.T) {
	v, h := formatted(t, 100, true)
	x := begin(t, h)
	takes(t, x, 24, 24)
	for i := range 24 {
		store(t, x, 24+i, pageOf(i))
	}
	v.p.Fuse(0, false)
	v.d.Flush()
	if code := x.Commit(9999); code != api.ErrFull {
		t.Errorf("code %d", code)
	}
	v.lose()
	x.Give(30, 1)
	commit(t, x, 24)
}

// TestCommitRoot: 17.7, each root that an anchor may have, and such as it may not: then the change is not done, and can't be any more.
func TestCommitRoot(t *testing.T) {
	for _, root := range []int{-1, 0, 24, 4095} {
		v, h := formatted(t, 34, true)
		made(t, h, 1, 1)
		x := begin(t, h)
		store(t, x, 24, pageOf(2))
		commit(t, x, root)
		if a := last(t, v.keeper(t)); a.Root != root || a.RootEpoch != x.Epoch() || a.Epoch != x.Epoch() {
			t.Errorf("root %d: %+v", root, a)
		}
	}
	for _, root := range []int{-2, -100, 4096, 1 << 40, math.MaxInt, math.MinInt} {
		v, h := formatted(t, 34, true)
		old := made(t, h, 2, 1)
		x := begin(t, h)
		a := last(t, h.Keeper())
		takes(t, x, 1, 26)
		store(t, x, 24, pageOf(2))
		x.Give(25, 1)
		if code := x.Commit(root); code != api.ErrRange {
			t.Errorf("root %d: code %d", root, code)
		}
		if code := x.Commit(24); code != api.ErrState {
			t.Errorf("root %d, once more: code %d", root, code)
		}
		checkAnchor(t, h.Keeper(), a)
		checkAnchor(t, v.keeper(t), a)
		loads(t, h, 24, old, pageOf(1))
		loads(t, v.open(t), 24, old, pageOf(1))
		if !slices.Equal(free(h), run(26, 8)) {
			t.Errorf("root %d: free are %v", root, free(h))
		}
		made(t, h, 1, 5)
		if v.s.Reused() {
			t.Error("a nonce was used twice")
		}
	}
}

// TestCommitAtTheEnd: 17.7, there is no number for the anchor: the change is not done; there is none for the one behind it: it is done, and its pages wait in the log, though they are written.
func TestCommitAtTheEnd(t *testing.T) {
	for left, want := range []api.Code{api.ErrRange, api.ErrRange, api.OK} {
		v := numbered(t, api.Anchor{Seq: api.MaxNum - 1 - left, Root: -1, Master: masterOf(1)})
		h := v.open(t)
		x := begin(t, h)
		takes(t, x, 1, 24)
		store(t, x, 24, pageOf(1))
		if code := x.Commit(24); code != want {
			t.Errorf("%d left: code %d; want %d", left, code, want)
		}
		a := last(t, h.Keeper())
		if (a.Epoch == 1) != (left > 0) || (a.Pending == 1) != (left == 1) || h.Space().Taken(24) != (left > 0) {
			t.Errorf("%d left: %+v, taken %t", left, a, h.Space().Taken(24))
		}
		if left > 0 {
			loads(t, h, 24, 1, pageOf(1))
		}
	}
}

// TestCommitNothing: 17.7, a change without pages is noted, and flushed, as well; nothing has to be cleaned.
func TestCommitNothing(t *testing.T) {
	v, h := formatted(t, 24, false)
	for i := range 3 {
		x := begin(t, h)
		steps, a := v.p.Steps(), last(t, h.Keeper())
		commit(t, x, -1)
		if v.p.Steps() != steps+4 {
			t.Errorf("%d steps", v.p.Steps()-steps)
		}
		a.Seq, a.Epoch, a.RootEpoch = a.Seq+1, i+1, i+1
		checkAnchor(t, h.Keeper(), a)
		checkSealed(t, v, i+1, nil)
	}
}

// TestCommitSteps: 17.7, the power goes at each step: just what is ahead of that is done, and that step itself, if it is said.
func TestCommitSteps(t *testing.T) {
	for _, n := range []int{0, 1, 2, 23} {
		all := 2*n + 4 + min(n, 1)
		for step := range all + 1 {
			for _, done := range []bool{false, true} {
				v, x := readyOf(t, n)
				seen, cells := len(v.d.Seen()), v.c.Writes()
				v.p.Fuse(step, done)
				want, acts := api.ErrDown, step
				if done {
					acts++
				}
				if step == all {
					want, acts = api.OK, all
				}
				if code := x.Commit(24); code != want {
					t.Fatalf("%d pages, step %d: code %d; want %d", n, step, code, want)
				}
				inCell := 0
				for _, at := range []int{n + 2, 2*n + 4} {
					if acts > at && at < all {
						inCell++
					}
				}
				if v.c.Writes()-cells != inCell || len(v.d.Seen())-seen != acts-inCell {
					t.Errorf("%d pages, step %d, done %t: %d writes of the cell, %d touches; want %d, %d", n, step, done, v.c.Writes()-cells, len(v.d.Seen())-seen, inCell, acts-inCell)
				}
			}
		}
	}
}

// readyOf is devices, and a change that took so many blocks and stored pages there.
func readyOf(t *testing.T, n int) (*devices, *sheaf.Tx) {
	t.Helper()
	v, h := formatted(t, 60, true)
	x := begin(t, h)
	takes(t, x, 36, 24)
	for i := range n {
		store(t, x, 24+i, pageOf(i))
	}
	return v, x
}
