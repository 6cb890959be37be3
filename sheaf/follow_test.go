package sheaf_test

import (
	"bytes"
	"slices"
	"testing"

	"deedbox/api"
	"deedbox/sheaf"
)

// changing is devices with three pages of epoch 1 on the blocks 24 to 26, and a change that has pages anew on 24 and 25, one more on 27, a block of its own, 28, and that gives 26 back.
func changing(t *testing.T, ideal bool) (*devices, *sheaf.Tx) {
	t.Helper()
	v, h := formatted(t, 34, ideal)
	made(t, h, 3, 1)
	x := begin(t, h)
	takes(t, x, 2, 27)
	writes(t, x, 28, blockOf(5), api.OK)
	store(t, x, 27, pageOf(13))
	store(t, x, 24, pageOf(11))
	store(t, x, 25, pageOf(12))
	x.Give(26, 1)
	return v, x
}

// checkWhole holds that such a change is done wholly, or not at all, as the anchor says.
func checkWhole(t *testing.T, v *devices, h *sheaf.Sheaf) {
	t.Helper()
	a := last(t, h.Keeper())
	loads(t, h, 26, 1, pageOf(3))
	if a.Epoch == 1 {
		loads(t, h, 24, 1, pageOf(1))
		loads(t, h, 25, 1, pageOf(2))
		return
	}
	loads(t, h, 24, 2, pageOf(11))
	loads(t, h, 25, 2, pageOf(12))
	loads(t, h, 27, 2, pageOf(13))
	if b, code := h.Block(28); code != api.OK || !bytes.Equal(b, blockOf(5)) {
		t.Errorf("the change's own block: %d bytes, code %d", len(b), code)
	}
	if a.Root != 24 || a.Pending != 0 {
		t.Errorf("the anchor is %+v", a)
	}
}

// TestWhollyOrNotAtAll: 17.8 and P1, the power goes at each step of a commit, and each set of what waits is kept: the change is done just if the anchor's commit was.
func TestWhollyOrNotAtAll(t *testing.T) {
	const all, commits = 11, 5
	for _, ideal := range kinds() {
		for step := range all {
			for _, done := range []bool{false, true} {
				sets := 1 << 6
				if !ideal {
					sets = 2
				}
				for set := range sets {
					v, x := changing(t, ideal)
					v.p.Fuse(step, done)
					if code := x.Commit(24); code != api.ErrDown {
						t.Fatalf("step %d: code %d", step, code)
					}
					if v.d.Loose() > 6 {
						t.Fatalf("%d writes wait", v.d.Loose())
					}
					v.lose(bits(set, v.d.Loose())...)
					h := v.open(t)
					is := last(t, h.Keeper()).Epoch == 2
					if want := step > commits || step == commits && done; is != want {
						t.Errorf("step %d, done %t: the change is done: %t", step, done, is)
					}
					checkWhole(t, v, h)
					v.lose()
					checkWhole(t, v, v.open(t))
					if v.s.Reused() || v.s.Forged() {
						t.Errorf("reused %t, forged %t", v.s.Reused(), v.s.Forged())
					}
				}
			}
		}
		v, x := changing(t, ideal)
		v.p.Fuse(all, true)
		commit(t, x, 24)
	}
}

// TestLostAgain: 17.8 and P1, the power goes behind the anchor's commit, and then at each step of opening, over and over, with each set kept: at the end the change is there, wholly.
func TestLostAgain(t *testing.T) {
	for step := 6; step < 11; step++ {
		for again := range 9 {
			for set := range 1 << 4 {
				v, x := changing(t, true)
				v.p.Fuse(step, set&1 == 0)
				x.Commit(24)
				v.lose(bits(set, v.d.Loose())...)
				for i := range 3 {
					v.p.Fuse((again+i)%9, set&2 == 0)
					_, code := sheaf.Open(v.d, v.s, v.keeper(t))
					if code != api.ErrDown && code != api.OK {
						t.Fatalf("step %d, again %d: code %d", step, again, code)
					}
					v.lose(bits(set>>1, v.d.Loose())...)
				}
				h := v.open(t)
				if last(t, h.Keeper()).Epoch != 2 {
					t.Errorf("step %d, again %d: the change is not done", step, again)
				}
				checkWhole(t, v, h)
			}
		}
	}
}

// known is a page of an epoch.
type known struct{ page, epoch int }

// keeping is a sheaf that is changed and lost over and over, and what is so by what was committed: of which epoch each page is, what it has, and all that was ever committed.
type keeping struct {
	v     *devices
	h     *sheaf.Sheaf
	pages map[int]int
	texts map[known][]byte
	seed  uint32
}

func newKeeping(t *testing.T, ideal bool, seed int) *keeping {
	v, h := formatted(t, 44, ideal)
	return &keeping{v: v, h: h, pages: map[int]int{}, texts: map[known][]byte{}, seed: uint32(seed)*2654435761 + 1}
}

// chance is a number below n.
func (w *keeping) chance(n int) int {
	w.seed = w.seed*1664525 + 1013904223
	return int(w.seed>>8) % n
}

// reopen opens anew, and marks the pages that there are.
func (w *keeping) reopen(t *testing.T) {
	t.Helper()
	w.h = w.v.open(t)
	for page := range w.pages {
		if code := w.h.Space().Mark(page, 1); code != api.OK {
			t.Fatalf("Mark of %d: code %d", page, code)
		}
	}
}

// change does a change by chance: its pages, and those that it gives.
func (w *keeping) change(t *testing.T) (*sheaf.Tx, map[int][]byte, []int) {
	t.Helper()
	x := begin(t, w.h)
	stored, given := map[int][]byte{}, []int{}
	for range w.chance(4) {
		if at, code := x.Take(1); code == api.OK {
			stored[at] = pageOf(w.chance(1 << 20))
		}
	}
	for page := 24; page < 44; page++ {
		if w.pages[page] == 0 {
			continue
		}
		switch w.chance(6) {
		case 0:
			x.Give(page, 1)
			given = append(given, page)
		case 1, 2:
			stored[page] = pageOf(w.chance(1 << 20))
		}
	}
	for page, b := range stored {
		store(t, x, page, b)
	}
	return x, stored, given
}

// done has a change be done in what is known.
func (w *keeping) done(epoch int, stored map[int][]byte, given []int) {
	for page, b := range stored {
		w.pages[page] = epoch
		w.texts[known{page, epoch}] = b
	}
	for _, page := range given {
		delete(w.pages, page)
	}
}

// check loads each page as it has to be, and holds which blocks are taken.
func (w *keeping) check(t *testing.T) {
	t.Helper()
	for page := 24; page < 44; page++ {
		epoch, ok := w.pages[page]
		if ok {
			loads(t, w.h, page, epoch, w.texts[known{page, epoch}])
		}
		if ok != w.h.Space().Taken(page) {
			t.Errorf("block %d: taken %t; want %t", page, !ok, ok)
		}
	}
}

// TestRowsOfLosses: 17.8 and P1, changes by chance, one behind the other, the power going where it likes: each is done wholly, or not at all, as the anchor says; nothing is ever not right; no nonce is used twice.
func TestRowsOfLosses(t *testing.T) {
	for _, ideal := range kinds() {
		for seed := range 4 {
			w := newKeeping(t, ideal, seed)
			lost, kept := 0, 0
			for range 60 {
				x, stored, given := w.change(t)
				if w.chance(3) == 0 {
					continue
				}
				w.v.p.Fuse(w.chance(30), w.chance(2) == 0)
				code := x.Commit(24)
				if code == api.OK {
					w.v.p.Back()
					w.done(x.Epoch(), stored, given)
					w.check(t)
					continue
				}
				if code != api.ErrDown {
					t.Fatalf("code %d", code)
				}
				w.v.lose(bits(w.chance(1<<20), w.v.d.Loose())...)
				if last(t, w.v.keeper(t)).Epoch == x.Epoch() {
					w.done(x.Epoch(), stored, given)
					kept++
				} else {
					lost++
				}
				w.reopen(t)
				w.check(t)
			}
			if lost == 0 || kept == 0 || len(w.texts) == 0 || w.v.s.Reused() || w.v.s.Forged() {
				t.Errorf("%d lost, %d kept, %d pages, reused %t, forged %t", lost, kept, len(w.texts), w.v.s.Reused(), w.v.s.Forged())
			}
		}
	}
}

// poke is what somebody else may do to some block: bytes, another block, or what was there.
func (w *keeping) poke() api.Poke {
	x := api.Poke{At: w.chance(44), Kind: w.chance(3), N: w.chance(44)}
	if x.Kind == api.PokeBack {
		x.N = w.chance(6)
	}
	if x.Kind == api.PokeBytes {
		x.Bytes = turned(w.v.d.Look(x.At), w.chance(4096))
	}
	return x
}

// TestSomebodyElse: 17.8 and P2, ideally, whatever somebody else does at once, or ahead of a read: a page is loaded as it was committed in that epoch, or it is not right; nothing is loaded that was never sealed.
func TestSomebodyElse(t *testing.T) {
	for seed := range 4 {
		w := newKeeping(t, true, seed)
		right, wrong := 0, 0
		for range 40 {
			x, stored, given := w.change(t)
			commit(t, x, 24)
			w.done(x.Epoch(), stored, given)
			for range 3 {
				w.v.d.Poke(w.poke())
			}
			w.v.d.Plot([]api.Poke{{When: w.v.d.Steps() + w.chance(9), At: 24 + w.chance(20), Kind: api.PokeBack, N: w.chance(3)}})
			for k, b := range w.texts {
				switch got, code := w.h.Load(k.page, k.epoch); {
				case code == api.OK && bytes.Equal(got, b):
					right++
				case code == api.ErrIntegrity && len(got) == 0:
					wrong++
				default:
					t.Fatalf("page %d of epoch %d: %d bytes, code %d", k.page, k.epoch, len(got), code)
				}
			}
			for range 20 {
				k := known{w.chance(44), w.chance(50)}
				if _, ok := w.texts[k]; !ok {
					refuses(t, w.h, k.page, k.epoch, api.ErrIntegrity)
				}
			}
		}
		if right == 0 || wrong == 0 {
			t.Errorf("%d right, %d wrong", right, wrong)
		}
	}
}

// TestOpenWhateverElse: 17.2, 17.8 and P2, somebody else does something ahead of each step of catching up: it is not right, and then nothing was written; or the pages are there, but for those that were changed behind that.
func TestOpenWhateverElse(t *testing.T) {
	for step := range 8 {
		for at := range 30 {
			for kind := range 3 {
				v, epoch := stuck(t, true, 3)
				before := len(v.d.Seen())
				v.d.Plot([]api.Poke{{When: v.d.Steps() + step, At: at, Kind: kind, Bytes: blockOf(1), N: 1}})
				h, code := sheaf.Open(v.d, v.s, v.keeper(t))
				wrote := slices.ContainsFunc(v.d.Seen()[before:], func(x api.Touch) bool { return x.Kind != api.TouchRead })
				switch {
				case code == api.ErrIntegrity && h == nil && !wrote && at <= 3 && step <= at:
					continue
				case code != api.OK || h == nil:
					t.Fatalf("step %d, block %d: code %d, wrote %t", step, at, code, wrote)
				}
				for i := range 3 {
					if b, code := h.Load(24+i, epoch); code == api.OK && !bytes.Equal(b, pageOf(101+i)) || code != api.OK && at != 24+i {
						t.Errorf("step %d, block %d: page %d: code %d", step, at, 24+i, code)
					}
				}
			}
		}
	}
}

// TestOldDisk: 17.8 and P2, the whole disk put back as it was: what was changed since is not right, for a sheaf that is open and for who opens anew; what was not is there.
func TestOldDisk(t *testing.T) {
	for _, ideal := range kinds() {
		v, h := formatted(t, 34, ideal)
		made(t, h, 3, 1)
		old := state(v.d)
		x := begin(t, h)
		store(t, x, 24, pageOf(11))
		store(t, x, 25, pageOf(12))
		commit(t, x, 24)
		for at, b := range old {
			put(v.d, at, b)
		}
		for _, l := range []*sheaf.Sheaf{h, v.open(t)} {
			refuses(t, l, 24, 2, api.ErrIntegrity)
			refuses(t, l, 25, 2, api.ErrIntegrity)
			loads(t, l, 26, 1, pageOf(3))
		}
	}
}

// TestOldLog: 17.8 and P2, the log put back as it was for an older change: who opens while pages wait is told that it is not right.
func TestOldLog(t *testing.T) {
	for _, ideal := range kinds() {
		v, _ := stuck(t, ideal, 2)
		late := state(v.d)
		for at := range 24 {
			v.d.Poke(api.Poke{At: at, Kind: api.PokeBack, N: 1})
		}
		opens(t, v.d, v.s, v.keeper(t), api.ErrIntegrity)
		for at := range 24 {
			put(v.d, at, late[at])
		}
		v.open(t)
	}
}

// shown is what is seen of a disk, and the codes, as changes are done that are the same but for texts and the master key.
func shown(t *testing.T, master []byte, first int) ([]api.Touch, []api.Code) {
	t.Helper()
	v := newDevices(t, 50, true)
	sheaf.Format(v.keeper(t), master)
	h := v.open(t)
	var codes []api.Code
	for i := range 12 {
		x := begin(t, h)
		at, code := x.Take(2)
		codes = append(codes, code)
		for j := range 2 {
			codes = append(codes, x.Store(at+j, pageOf(first+3*i+j)))
		}
		if i > 2 {
			x.Give(24+i, 1)
			codes = append(codes, x.Store(24+2*i, pageOf(first+3*i+2)))
		}
		_, code = x.Load(24, 1)
		codes = append(codes, code)
		v.p.Fuse(7*i, i%2 == 0)
		codes = append(codes, x.Commit(24))
		if v.p.Down() {
			v.lose(bits(5*i, v.d.Loose())...)
			h = v.open(t)
			h.Space().Mark(24, 2*i)
		}
		v.p.Back()
		for at := range 50 {
			_, code := h.Load(at, i)
			codes = append(codes, code)
		}
	}
	return v.d.Seen(), codes
}

// TestNotSeen: 17.8 and P3, ideally two rows of changes that are the same but for what pages have, and for the master key: the disk is read and written alike, and the codes are the same.
func TestNotSeen(t *testing.T) {
	seen, codes := shown(t, masterOf(1), 1)
	other, others := shown(t, masterOf(2), 1000)
	if !sameTouches(seen, other) || !slices.Equal(codes, others) {
		t.Errorf("%d touches and %d codes are not the same as the other %d and %d", len(seen), len(codes), len(other), len(others))
	}
	if !slices.Contains(codes, api.ErrDown) || !slices.Contains(codes, api.ErrIntegrity) || !slices.Contains(codes, api.OK) {
		t.Error("some code is missing")
	}
}

// TestNothingInTheOpen: 17.8 and P6, neither the master key, nor those that come of it, nor what pages have stands on the disk.
func TestNothingInTheOpen(t *testing.T) {
	for _, ideal := range kinds() {
		v, h := formatted(t, 40, ideal)
		made(t, h, 3, 1)
		made(t, h, 3, 4)
		hidden := [][]byte{masterOf(1), v.s.Derive(masterOf(1), []byte("page")), v.s.Derive(masterOf(1), []byte("log"))}
		for i := range 6 {
			hidden = append(hidden, pageOf(1 + i)[:16], pageOf(1 + i)[480:])
		}
		for _, x := range v.d.Seen() {
			for i, b := range hidden {
				if bytes.Contains(x.Bytes, b) {
					t.Errorf("ideal %t: block %d was written with %d in it", ideal, x.At, i)
				}
			}
		}
	}
}

// TestForRealAsIdeally: P7, the same row of changes for real and ideally: the same codes, steps and blocks.
func TestForRealAsIdeally(t *testing.T) {
	one, other := newKeeping(t, true, 7), newKeeping(t, false, 7)
	for range 30 {
		x, stored, given := one.change(t)
		y, _, _ := other.change(t)
		fuse, done := one.chance(25), other.chance(25)%2 == 0
		one.v.p.Fuse(fuse, done)
		other.v.p.Fuse(fuse, done)
		code := x.Commit(24)
		if code != y.Commit(24) || one.v.p.Steps() != other.v.p.Steps() || one.v.d.Loose() != other.v.d.Loose() {
			t.Fatalf("epoch %d: code %d, and another one, or other steps", x.Epoch(), code)
		}
		keep := bits(one.chance(1<<20), one.v.d.Loose())
		other.chance(1 << 20)
		one.v.lose(keep...)
		other.v.lose(keep...)
		if last(t, one.v.keeper(t)).Epoch == x.Epoch() {
			one.done(x.Epoch(), stored, given)
			other.done(x.Epoch(), stored, given)
		}
		one.reopen(t)
		other.reopen(t)
		one.check(t)
		other.check(t)
	}
}
