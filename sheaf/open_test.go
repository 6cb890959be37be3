package sheaf_test

import (
	"bytes"
	"slices"
	"testing"

	"deedbox/anchor"
	"deedbox/api"
	"deedbox/disk"
	"deedbox/redo"
	"deedbox/seal"
	"deedbox/sheaf"
)

// TestFormat: 17.1, an anchor without a root, of that master key, all else zero; the disk plays no part.
func TestFormat(t *testing.T) {
	v := newDevices(t, 30, true)
	k := v.keeper(t)
	if code := sheaf.Format(k, masterOf(3)); code != api.OK {
		t.Fatalf("code %d", code)
	}
	want := api.Anchor{Seq: 1, Root: -1, Master: masterOf(3)}
	checkAnchor(t, k, want)
	checkAnchor(t, v.keeper(t), want)
	if v.c.Writes() != 1 || v.p.Steps() != 1 || v.d.Steps() != 0 {
		t.Errorf("%d writes, %d steps, %d of the disk", v.c.Writes(), v.p.Steps(), v.d.Steps())
	}
}

// TestFormatAgain: 17.1, what was there plays no part, but for the number, which is counted on.
func TestFormatAgain(t *testing.T) {
	v, h := formatted(t, 30, true)
	made(t, h, 2, 1)
	k := h.Keeper()
	a := last(t, k)
	a.Keks = []api.Kek{{Bucket: 1, Gen: 2, Key: row(32, 9)}}
	if code := k.Save(a); code != api.OK {
		t.Fatalf("Save: code %d", code)
	}
	if code := sheaf.Format(k, masterOf(2)); code != api.OK {
		t.Fatalf("code %d", code)
	}
	checkAnchor(t, k, api.Anchor{Seq: a.Seq + 2, Root: -1, Master: masterOf(2)})
	refuses(t, v.open(t), 24, 1, api.ErrIntegrity)
}

// TestFormatCodes: 17.1, without a keeper; keys that are too short or too long; the power, gone ahead of it, or at its step.
func TestFormatCodes(t *testing.T) {
	if code := sheaf.Format(nil, masterOf(1)); code != api.ErrArg {
		t.Errorf("without a keeper: code %d", code)
	}
	if code := sheaf.Format(nil, nil); code != api.ErrArg {
		t.Errorf("without anything: code %d", code)
	}
	for _, n := range []int{0, 1, 16, 31, 33, 64, 1000} {
		v := newDevices(t, 30, true)
		k := v.keeper(t)
		if code := sheaf.Format(k, row(n, 1)); code != api.ErrSize || v.p.Steps() != 0 {
			t.Errorf("a key of %d bytes: code %d, %d steps", n, code, v.p.Steps())
		}
		if _, ok := k.Last(); ok {
			t.Errorf("a key of %d bytes: an anchor counts", n)
		}
	}
	for _, done := range []bool{false, true} {
		v := newDevices(t, 30, true)
		k := v.keeper(t)
		v.p.Fuse(0, done)
		for range 2 {
			if code := sheaf.Format(k, masterOf(1)); code != api.ErrDown {
				t.Errorf("the power gone: code %d", code)
			}
		}
		v.p.Back()
		if _, ok := v.keeper(t).Last(); ok != done {
			t.Errorf("the power gone, done %t: an anchor counts: %t", done, ok)
		}
	}
}

// TestFormatAtTheEnd: 17.1, an anchor behind which there is no number is Save's code.
func TestFormatAtTheEnd(t *testing.T) {
	v := numbered(t, api.Anchor{Seq: api.MaxNum, Root: -1, Master: masterOf(1)})
	if code := sheaf.Format(v.keeper(t), masterOf(1)); code != api.ErrRange {
		t.Errorf("code %d", code)
	}
}

// numbered is devices whose cell has an anchor, put there by hand.
func numbered(t *testing.T, a api.Anchor) *devices {
	t.Helper()
	v := newDevices(t, 40, true)
	b, code := anchor.Put(a)
	if code != api.OK {
		t.Fatalf("Put: code %d", code)
	}
	if code := v.c.Write(a.Seq%2, b); code != api.OK {
		t.Fatalf("Write: code %d", code)
	}
	return v
}

// opens holds what Open answers against a code: a sheaf, or none.
func opens(t *testing.T, d *disk.Disk, s *seal.Sealer, k *anchor.Keeper, want api.Code) *sheaf.Sheaf {
	t.Helper()
	h, code := sheaf.Open(d, s, k)
	if code != want || (h != nil) != (want == api.OK) {
		t.Fatalf("Open: %t, code %d; want code %d", h != nil, code, want)
	}
	return h
}

// TestOpenWithout: 17.2, one of them is nil, or more; that is ahead of all else.
func TestOpenWithout(t *testing.T) {
	v := newDevices(t, 5, true)
	k := v.keeper(t)
	opens(t, nil, v.s, k, api.ErrArg)
	opens(t, v.d, nil, k, api.ErrArg)
	opens(t, v.d, v.s, nil, api.ErrArg)
	opens(t, nil, nil, nil, api.ErrArg)
	w, h := formatted(t, 30, true)
	opens(t, nil, w.s, h.Keeper(), api.ErrArg)
	opens(t, w.d, nil, h.Keeper(), api.ErrArg)
	opens(t, w.d, w.s, nil, api.ErrArg)
	opens(t, w.d, w.s, h.Keeper(), api.OK)
}

// TestOpenNone: 17.2, no anchor counts, ahead of a disk that is too small.
func TestOpenNone(t *testing.T) {
	for _, size := range []int{1, 23, 24, 100} {
		v := newDevices(t, size, true)
		opens(t, v.d, v.s, v.keeper(t), api.ErrNone)
		if v.p.Steps() != 0 || v.s.Sealed() != 0 {
			t.Errorf("%d steps, %d sealed", v.p.Steps(), v.s.Sealed())
		}
	}
}

// TestOpenSizes: 17.2, disks that have not even room for the log, that have just that, and greater ones; at first the log's blocks alone are taken.
func TestOpenSizes(t *testing.T) {
	for _, size := range []int{1, 2, 22, 23, 24, 25, 26, 100, 4095, 4096} {
		v := newDevices(t, size, true)
		k := v.keeper(t)
		sheaf.Format(k, masterOf(1))
		if size < 24 {
			opens(t, v.d, v.s, k, api.ErrRange)
			continue
		}
		h := opens(t, v.d, v.s, k, api.OK)
		if h.Space().Size() != size || !slices.Equal(free(h), run(24, size-24)) {
			t.Errorf("%d blocks: %d, of which %d are free", size, h.Space().Size(), len(free(h)))
		}
		if code := h.Space().Give(0, 1); code != api.ErrRange {
			t.Errorf("a block of the log is given: code %d", code)
		}
		if h.Keeper() != k {
			t.Error("another keeper")
		}
		if v.d.Steps() != 0 || v.c.Writes() != 1 {
			t.Errorf("%d steps of the disk, %d writes of the cell", v.d.Steps(), v.c.Writes())
		}
	}
}

// TestSpaceIsTheSheafs: 17.2, who opens marks blocks: a change does not take these, and may store pages there; it is the same space behind a change.
func TestSpaceIsTheSheafs(t *testing.T) {
	_, h := formatted(t, 34, true)
	s := h.Space()
	if code := s.Mark(24, 3); code != api.OK {
		t.Fatalf("Mark: code %d", code)
	}
	x := begin(t, h)
	takes(t, x, 1, 27)
	store(t, x, 25, pageOf(1))
	store(t, x, 27, pageOf(2))
	x.Give(26, 1)
	commit(t, x, 25)
	if s != h.Space() || !slices.Equal(free(h), []int{26, 28, 29, 30, 31, 32, 33}) {
		t.Errorf("free are %v", free(h))
	}
}

// TestOpenForgetsSpace: 17.2, opened anew the log's blocks alone are taken, whatever pages there are.
func TestOpenForgetsSpace(t *testing.T) {
	v, h := formatted(t, 34, true)
	epoch := made(t, h, 4, 1)
	if !slices.Equal(free(h), run(28, 6)) {
		t.Errorf("free are %v", free(h))
	}
	h = v.open(t)
	if !slices.Equal(free(h), run(24, 10)) {
		t.Errorf("free are %v", free(h))
	}
	for i := range 4 {
		loads(t, h, 24+i, epoch, pageOf(1+i))
	}
}

// stuck is devices, and a sheaf's last change of so many pages, from block 24 on, that was done, but for its pages: they wait in the log.
func stuck(t *testing.T, ideal bool, n int) (*devices, int) {
	t.Helper()
	v, h := formatted(t, 60, ideal)
	made(t, h, n, 1)
	x := begin(t, h)
	for i := range n {
		store(t, x, 24+i, pageOf(101+i))
	}
	v.p.Fuse(n+2, true)
	if code := x.Commit(24); code != api.ErrDown {
		t.Fatalf("Commit: code %d", code)
	}
	v.lose()
	if a := last(t, v.keeper(t)); a.Pending != n || a.Epoch != x.Epoch() {
		t.Fatalf("%d pages wait, of epoch %d", a.Pending, a.Epoch)
	}
	return v, x.Epoch()
}

// TestOpenCatchesUp: 17.2, pages that wait in the log are read, written where they belong by rising blocks, flushed, and then none waits; opened once more nothing is left to do.
func TestOpenCatchesUp(t *testing.T) {
	for _, ideal := range kinds() {
		for _, n := range []int{1, 2, 7, 22, 23} {
			v, epoch := stuck(t, ideal, n)
			a, seen, steps := last(t, v.keeper(t)), len(v.d.Seen()), v.p.Steps()
			want := catchUp(v, n)
			h := v.open(t)
			if got := v.d.Seen()[seen:]; !sameTouches(got, want) || v.p.Steps() != steps+2*n+3 {
				t.Errorf("%d pages: %d touches, %d steps; want %d touches", n, len(got), v.p.Steps()-steps, len(want))
			}
			a.Seq, a.Pending = a.Seq+1, 0
			checkAnchor(t, h.Keeper(), a)
			v.lose()
			for i := range n {
				loads(t, h, 24+i, epoch, pageOf(101+i))
			}
			steps = v.p.Steps()
			v.open(t)
			if v.p.Steps() != steps {
				t.Errorf("%d pages: %d steps to open once more", n, v.p.Steps()-steps)
			}
		}
	}
}

// catchUp is what is seen of a disk as so many pages, from block 24 on, that wait in its log are read and applied.
func catchUp(v *devices, n int) []api.Touch {
	l := []api.Touch{{Kind: api.TouchRead}}
	for i := range n {
		l = append(l, api.Touch{Kind: api.TouchRead, At: 1 + i})
	}
	for i := range n {
		l = append(l, api.Touch{Kind: api.TouchWrite, At: 24 + i, Bytes: v.d.Look(1 + i)})
	}
	return append(l, api.Touch{Kind: api.TouchFlush, At: -1})
}

// TestOpenDown: 17.2, the power goes at each step of catching up: no sheaf; when it is back all is there.
func TestOpenDown(t *testing.T) {
	for _, ideal := range kinds() {
		for _, n := range []int{1, 3} {
			for step := range 2*n + 3 {
				for x := range 1 << n {
					v, epoch := stuck(t, ideal, n)
					k := v.keeper(t)
					v.p.Fuse(step, x&1 == 0)
					opens(t, v.d, v.s, k, api.ErrDown)
					opens(t, v.d, v.s, k, api.ErrDown)
					v.lose(bits(x, v.d.Loose())...)
					h := v.open(t)
					v.lose()
					for i := range n {
						loads(t, h, 24+i, epoch, pageOf(101+i))
					}
					if last(t, h.Keeper()).Pending != 0 {
						t.Errorf("%d pages, step %d: some wait", n, step)
					}
				}
			}
		}
	}
}

// TestOpenNotRight: 17.2, a bit of the log's head or of one of its pages is turned: nothing is written, and all is there when it is turned back.
func TestOpenNotRight(t *testing.T) {
	for _, ideal := range kinds() {
		v, epoch := stuck(t, ideal, 3)
		for at, length := range []int{24, 512, 512, 512} {
			for bit := 0; bit < 8*length; bit += 7 {
				was := v.d.Look(at)
				put(v.d, at, turned(was, bit))
				before, steps := state(v.d), v.c.Writes()
				opens(t, v.d, v.s, v.keeper(t), api.ErrIntegrity)
				checkState(t, v.d, before)
				if v.d.Loose() != 0 || v.c.Writes() != steps {
					t.Fatalf("block %d, bit %d: %d writes wait, %d of the cell", at, bit, v.d.Loose(), v.c.Writes()-steps)
				}
				put(v.d, at, was)
			}
		}
		h := v.open(t)
		for i := range 3 {
			loads(t, h, 24+i, epoch, pageOf(101+i))
		}
	}
}

// TestOpenSwapped: 17.2, each page is opened as a page of its own block, and of that epoch: pages of the log that change places, or that are of the epoch ahead, are not right.
func TestOpenSwapped(t *testing.T) {
	for _, ideal := range kinds() {
		v, _ := stuck(t, ideal, 2)
		one, two, old := v.d.Look(1), v.d.Look(2), v.d.Look(24)
		for _, x := range [][2][]byte{{two, one}, {one, one}, {two, two}, {old, two}, {one, v.d.Look(25)}} {
			put(v.d, 1, x[0])
			put(v.d, 2, x[1])
			opens(t, v.d, v.s, v.keeper(t), api.ErrIntegrity)
			if v.d.Loose() != 0 || !bytes.Equal(v.d.Look(24), old) {
				t.Error("something was written")
			}
		}
		put(v.d, 1, one)
		put(v.d, 2, two)
		v.open(t)
	}
}

// TestOpenCounts: 17.2, how many pages wait is what the anchor says: another number is not right, and one that has no room in the log is redo.Read's code.
func TestOpenCounts(t *testing.T) {
	for _, n := range []int{1, 3, 22, 23, 24, 25, 4095} {
		v, _ := stuck(t, true, 2)
		k := v.keeper(t)
		a := last(t, k)
		a.Pending = n
		if code := k.Save(a); code != api.OK {
			t.Fatalf("Save: code %d", code)
		}
		want := api.ErrIntegrity
		if n > redo.Most {
			want = api.ErrArg
		}
		opens(t, v.d, v.s, k, want)
	}
}

// TestOpenEpoch: 17.2, the log is read as one of the anchor's Epoch, neither of that of the root nor of the one that was given last.
func TestOpenEpoch(t *testing.T) {
	v, epoch := stuck(t, true, 2)
	k := v.keeper(t)
	a := last(t, k)
	a.Given, a.RootEpoch = a.Given+5, 9
	k.Save(a)
	h := opens(t, v.d, v.s, k, api.OK)
	loads(t, h, 24, epoch, pageOf(101))
	v, _ = stuck(t, true, 2)
	k = v.keeper(t)
	a = last(t, k)
	a.Epoch--
	k.Save(a)
	opens(t, v.d, v.s, k, api.ErrIntegrity)
}

// TestOpenSmallerDisk: 17.2, behind a disk that is too small for the log: space.New's code; on one without the block of a page: redo.Apply's code.
func TestOpenSmallerDisk(t *testing.T) {
	for _, size := range []int{1, 23, 24, 25} {
		v, _ := stuck(t, true, 2)
		small := newDevices(t, size, true)
		for at := range min(size, 3) {
			put(small.d, at, v.d.Look(at))
		}
		opens(t, small.d, v.s, v.keeper(t), api.ErrRange)
		wrote := size == 25
		if (small.d.Loose() == 1) != wrote {
			t.Errorf("%d blocks: %d writes wait", size, small.d.Loose())
		}
	}
}

// TestOpenAtTheEnd: 17.2, Clean's code, if the anchor has no number behind it.
func TestOpenAtTheEnd(t *testing.T) {
	v, _ := stuck(t, true, 2)
	a := last(t, v.keeper(t))
	a.Seq = api.MaxNum
	w := numbered(t, a)
	opens(t, v.d, v.s, w.keeper(t), api.ErrRange)
}

// TestOpenUnderOthers: 17.2, opened under another master key: without pages in the log nothing tells, till one is loaded; with some the log is not right.
func TestOpenUnderOthers(t *testing.T) {
	for _, ideal := range kinds() {
		v, epoch := stuck(t, ideal, 2)
		k := v.keeper(t)
		a := last(t, k)
		a.Master = masterOf(2)
		k.Save(a)
		opens(t, v.d, v.s, k, api.ErrIntegrity)
		a.Pending = 0
		k.Save(a)
		refuses(t, opens(t, v.d, v.s, k, api.OK), 24, epoch-1, api.ErrIntegrity)
		a.Master = masterOf(1)
		k.Save(a)
		loads(t, opens(t, v.d, v.s, k, api.OK), 24, epoch-1, pageOf(1))
	}
}

// TestOpenNotMade: P0, a disk, a sealer and a keeper that were not made by their calls: their codes, and no panic.
func TestOpenNotMade(t *testing.T) {
	v, h := formatted(t, 34, true)
	opens(t, new(disk.Disk), v.s, h.Keeper(), api.ErrRange)
	opens(t, v.d, v.s, new(anchor.Keeper), api.ErrNone)
	if code := sheaf.Format(new(anchor.Keeper), masterOf(1)); code != api.ErrDown {
		t.Errorf("Format: code %d", code)
	}
	h = opens(t, v.d, new(seal.Sealer), h.Keeper(), api.OK)
	a := last(t, h.Keeper())
	x := begin(t, h)
	takes(t, x, 1, 24)
	store(t, x, 24, pageOf(1))
	if code := x.Commit(24); code == api.OK || v.d.Steps() != 0 {
		t.Errorf("code %d, %d steps of the disk", code, v.d.Steps())
	}
	if code := x.Commit(24); code != api.ErrState || h.Space().Taken(24) {
		t.Errorf("once more: code %d, taken %t", code, h.Space().Taken(24))
	}
	a.Seq, a.Given = a.Seq+1, 1
	checkAnchor(t, h.Keeper(), a)
}
