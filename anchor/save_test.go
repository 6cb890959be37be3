package anchor_test

import (
	"bytes"
	"math"
	"slices"
	"testing"

	"deedbox/anchor"
	"deedbox/api"
	"deedbox/cell"
)

// save saves an anchor, which must be done.
func save(t *testing.T, k *anchor.Keeper, a api.Anchor) {
	t.Helper()
	if code := k.Save(a); code != api.OK {
		t.Fatalf("%+v is not saved: code %d", a, code)
	}
}

// sectorsOf is all sectors of a cell, one behind the other.
func sectorsOf(t *testing.T, c *cell.Cell) []byte {
	t.Helper()
	var all []byte
	for at := range cell.Sectors {
		b, code := c.Read(at)
		if code != api.OK {
			t.Fatal(code)
		}
		all = append(all, b...)
	}
	return all
}

// filled is sectors that begin with these bytes, one behind the other.
func filled(sectors ...[]byte) []byte {
	all := make([]byte, cell.Sectors*cell.Size)
	for at, b := range sectors {
		copy(all[at*cell.Size:], b)
	}
	return all
}

// withSeq is an anchor with another number.
func withSeq(a api.Anchor, seq int) api.Anchor {
	a.Seq = seq
	return a
}

// TestSave: 14.6, numbers go on by one, from 1, whatever number is handed in; sectors are taken by turns, and no others are touched.
func TestSave(t *testing.T) {
	c, _ := cellOf(t, nil, nil, row(2, 1024), row(3, 1024))
	k := open(t, c)
	sectors := [][]byte{nil, nil, row(2, 1024), row(3, 1024)}
	for i, seq := range []int{0, 1, 7, -1, math.MaxInt, math.MinInt, 1 << 40, 1<<40 + 1, 2, 9} {
		a := numbered(seq, i)
		save(t, k, a)
		want := withSeq(a, i+1)
		counts(t, k, want)
		sectors[(i+1)%2] = written(want)
		if !bytes.Equal(sectorsOf(t, c), filled(sectors...)) {
			t.Errorf("save %d: the sectors are not as they should be", i)
		}
		if c.Writes() != 4+i+1 {
			t.Errorf("%d writes", c.Writes())
		}
	}
}

// TestSaveEven: 14.6, an even number goes to sector 0, though the one that counts stands there.
func TestSaveEven(t *testing.T) {
	for _, seq := range []int{1, 2, 3, 4, 255, 256, 1<<40 - 2, 1<<40 - 1} {
		for at := range 2 {
			sectors := [][]byte{row(5, 100), row(6, 1024)}
			sectors[at] = written(numbered(seq, 1))
			c, _ := cellOf(t, sectors...)
			k := open(t, c)
			save(t, k, right(2))
			want := withSeq(right(2), seq+1)
			counts(t, k, want)
			sectors[(seq+1)%2] = written(want)
			if !bytes.Equal(sectorsOf(t, c), filled(sectors...)) {
				t.Errorf("number %d in sector %d: the sectors are not as they should be", seq, at)
			}
		}
	}
}

// TestSaveShorter: 14.6, of a longer anchor ahead nothing is left in the sector.
func TestSaveShorter(t *testing.T) {
	c, _ := newCell(t)
	k := open(t, c)
	save(t, k, right(16))
	save(t, k, right(16))
	save(t, k, right(0))
	if !bytes.Equal(sectorsOf(t, c), filled(written(withSeq(right(16), 2)), written(withSeq(right(0), 3)))) {
		t.Error("the sectors are not as they should be")
	}
}

// TestSaveWrong: 14.6, of an anchor with something wrong there is Put's code, with and without power; nothing is written, and the same one counts.
func TestSaveWrong(t *testing.T) {
	for _, w := range append(wrongs(), mixed()...) {
		// The number is put anew: an anchor with nothing else wrong is saved.
		seqless := withSeq(w.a, 1)
		want := anchor.Check(seqless)
		if want == api.OK {
			continue
		}
		c, p := newCell(t)
		k := open(t, c)
		if code := k.Save(w.a); code != want {
			t.Errorf("%s: code %d; want %d", w.name, code, want)
		}
		keepsNone(t, k)
		save(t, k, right(1))
		if code := k.Save(w.a); code != want {
			t.Errorf("%s: code %d; want %d", w.name, code, want)
		}
		counts(t, k, withSeq(right(1), 1))
		if p.Steps() != 1 || c.Writes() != 1 {
			t.Errorf("%s: %d steps, %d writes", w.name, p.Steps(), c.Writes())
		}
		goDown(p)
		if code := k.Save(w.a); code != want {
			t.Errorf("%s, without power: code %d; want %d", w.name, code, want)
		}
	}
}

// TestSaveWrongNumber: 14.6, what is wrong with the number that is handed in is of no matter.
func TestSaveWrongNumber(t *testing.T) {
	c, _ := newCell(t)
	k := open(t, c)
	for i, seq := range []int{0, -1, math.MinInt, 1<<40 + 1, math.MaxInt} {
		save(t, k, withSeq(right(1), seq))
		counts(t, k, withSeq(right(1), i+1))
	}
}

// TestSaveLastNumber: 14.6, behind the greatest number there is none: what is out of range is not written.
func TestSaveLastNumber(t *testing.T) {
	c, p := cellOf(t, written(numbered(1<<40-1, 1)))
	k := open(t, c)
	save(t, k, right(2))
	last := withSeq(right(2), 1<<40)
	counts(t, k, last)
	steps := p.Steps()
	if code := k.Save(right(1)); code != api.ErrRange {
		t.Errorf("code %d", code)
	}
	if n, code := k.Give(); code != api.ErrRange || n != 0 {
		t.Errorf("%d, code %d", n, code)
	}
	if code := k.Commit(last.Epoch+1, 1, 1); code != api.ErrRange {
		t.Errorf("code %d", code)
	}
	if code := k.Clean(); code != api.ErrRange {
		t.Errorf("code %d", code)
	}
	counts(t, k, last)
	if p.Steps() != steps {
		t.Errorf("%d steps more", p.Steps()-steps)
	}
}

// TestSaveKeepsNothing: R3, what was saved may be written over, and was not changed.
func TestSaveKeepsNothing(t *testing.T) {
	c, _ := newCell(t)
	k := open(t, c)
	for i := range 4 {
		a := roomy(right(3))
		save(t, k, a)
		if a.Seq != 7 || !anchor.Same(a, right(3)) {
			t.Error("it was changed")
		}
		scribble(a)
		counts(t, k, withSeq(right(3), i+1))
	}
}

// TestGive: 14.7, one more is given each time, and nothing else is changed.
func TestGive(t *testing.T) {
	c, _ := newCell(t)
	k := open(t, c)
	want := withSeq(right(3), 1)
	save(t, k, want)
	for range 20 {
		want.Seq++
		want.Given++
		if n, code := k.Give(); code != api.OK || n != want.Given {
			t.Errorf("%d, code %d; want %d", n, code, want.Given)
		}
		counts(t, k, want)
	}
}

// TestGiveLast: 14.7, the greatest epoch is given; none is behind it, and then nothing is changed.
func TestGiveLast(t *testing.T) {
	c, p := newCell(t)
	k := open(t, c)
	a := right(1)
	a.Given = 1<<40 - 1
	save(t, k, a)
	if n, code := k.Give(); code != api.OK || n != 1<<40 {
		t.Errorf("%d, code %d", n, code)
	}
	a.Seq, a.Given = 2, 1<<40
	for range 3 {
		if n, code := k.Give(); code != api.ErrRange || n != 0 {
			t.Errorf("%d, code %d", n, code)
		}
		counts(t, k, a)
	}
	if p.Steps() != 2 {
		t.Errorf("%d steps", p.Steps())
	}
}

// TestNoneCounts: 14.7, as long as none counts there is nothing to give, to commit, to clean: whether the power is there or not, and whatever is wrong beside.
func TestNoneCounts(t *testing.T) {
	c, p := newCell(t)
	k := open(t, c)
	check := func() {
		t.Helper()
		if n, code := k.Give(); code != api.ErrNone || n != 0 {
			t.Errorf("%d, code %d", n, code)
		}
		for _, epoch := range []int{-1, 0, 1, 2, math.MinInt, math.MaxInt} {
			for _, root := range []int{-2, -1, 0, 4096} {
				if code := k.Commit(epoch, root, 0); code != api.ErrState {
					t.Errorf("epoch %d, root %d: code %d", epoch, root, code)
				}
			}
		}
		if code := k.Clean(); code != api.ErrNone {
			t.Errorf("code %d", code)
		}
		keepsNone(t, k)
	}
	check()
	p.Fuse(0, true)
	check()
	if p.Steps() != 0 || c.Writes() != 0 {
		t.Errorf("%d steps, %d writes", p.Steps(), c.Writes())
	}
	p.Step(func() {})
	check()
}

// TestCommit: 14.7, any epoch above the one that was committed, up to the one that was given, with any root and any pages that there may be.
func TestCommit(t *testing.T) {
	for _, epoch := range []int{301, 302, 4000, 69999, 70000} {
		for _, root := range []int{-1, 0, 1, 4094, 4095} {
			for _, pending := range []int{0, 1, 4094, 4095} {
				c, _ := newCell(t)
				k := open(t, c)
				want := withSeq(right(3), 1)
				save(t, k, want)
				if code := k.Commit(epoch, root, pending); code != api.OK {
					t.Errorf("%d, %d, %d: code %d", epoch, root, pending, code)
				}
				want.Seq, want.Epoch, want.Root, want.RootEpoch, want.Pending = 2, epoch, root, epoch, pending
				counts(t, k, want)
			}
		}
	}
}

// TestCommitState: 14.7, no epoch up to the one that was committed, none above the one that was given; that is told ahead of all else.
func TestCommitState(t *testing.T) {
	c, p := newCell(t)
	k := open(t, c)
	want := withSeq(right(3), 1)
	save(t, k, want)
	check := func() {
		t.Helper()
		for _, epoch := range []int{math.MinInt, -301, -1, 0, 1, 299, 300, 70001, 70002, 1 << 40, 1<<40 + 1, math.MaxInt} {
			for _, root := range []int{-2, -1, 0, 4096} {
				if code := k.Commit(epoch, root, 1); code != api.ErrState {
					t.Errorf("epoch %d, root %d: code %d", epoch, root, code)
				}
			}
		}
		keeps(t, k, want)
	}
	check()
	counts(t, k, want)
	goDown(p)
	check()
	if c.Writes() != 1 {
		t.Errorf("%d writes", c.Writes())
	}
}

// TestCommitWrong: 14.7, a root, or pages, that can't be have Save's code, and nothing is changed.
func TestCommitWrong(t *testing.T) {
	c, p := newCell(t)
	k := open(t, c)
	want := withSeq(right(3), 1)
	save(t, k, want)
	for _, root := range []int{math.MinInt, -2, 4096, 4097, math.MaxInt} {
		if code := k.Commit(301, root, 0); code != api.ErrRange {
			t.Errorf("root %d: code %d", root, code)
		}
	}
	for _, pending := range []int{math.MinInt, -1, 4096, 4097, math.MaxInt} {
		if code := k.Commit(301, 0, pending); code != api.ErrRange {
			t.Errorf("pending %d: code %d", pending, code)
		}
	}
	counts(t, k, want)
	if p.Steps() != 1 {
		t.Errorf("%d steps", p.Steps())
	}
}

// TestCommitOnce: 14.7, an epoch is committed once; those below it that were given can't be any more.
func TestCommitOnce(t *testing.T) {
	c, _ := newCell(t)
	k := open(t, c)
	save(t, k, api.Anchor{Root: -1, Master: row(1, 32)})
	for range 3 {
		k.Give()
	}
	var codes []api.Code
	for _, epoch := range []int{2, 2, 1, 3, 3, 4} {
		codes = append(codes, k.Commit(epoch, epoch, 0))
	}
	if !slices.Equal(codes, []api.Code{api.OK, api.ErrState, api.ErrState, api.OK, api.ErrState, api.ErrState}) {
		t.Errorf("%d", codes)
	}
	counts(t, k, api.Anchor{Seq: 6, Epoch: 3, Given: 3, Root: 3, RootEpoch: 3, Master: row(1, 32)})
}

// TestClean: 14.7, no page waits then, and all else is as it was; it is saved anew, though none did.
func TestClean(t *testing.T) {
	for _, pending := range []int{0, 1, 3, 4095} {
		c, _ := newCell(t)
		k := open(t, c)
		want := withSeq(right(3), 1)
		want.Pending = pending
		save(t, k, want)
		want.Pending = 0
		for range 3 {
			want.Seq++
			if code := k.Clean(); code != api.OK {
				t.Errorf("code %d", code)
			}
			counts(t, k, want)
		}
	}
}

// TestExample: the chapter's example.
func TestExample(t *testing.T) {
	c, _ := newCell(t)
	k := open(t, c)
	save(t, k, api.Anchor{Root: -1, Master: row(1, 32)})
	n, code := k.Give()
	if n != 1 || code != api.OK {
		t.Errorf("%d, code %d", n, code)
	}
	if code := k.Commit(n, 3, 2); code != api.OK {
		t.Errorf("code %d", code)
	}
	if code := k.Clean(); code != api.OK {
		t.Errorf("code %d", code)
	}
	counts(t, k, api.Anchor{Seq: 4, Epoch: 1, Given: 1, Root: 3, RootEpoch: 1, Master: row(1, 32)})
}

// TestNotMade: a keeper that Open did not make has no cell: it is as one whose power has gone, and none counts.
func TestNotMade(t *testing.T) {
	var k anchor.Keeper
	keepsNone(t, &k)
	if code := k.Save(right(1)); code != api.ErrDown {
		t.Errorf("code %d", code)
	}
	if code := k.Save(api.Anchor{}); code != api.ErrSize {
		t.Errorf("code %d", code)
	}
	_, give := k.Give()
	if commit, clean := k.Commit(1, 1, 1), k.Clean(); give != api.ErrNone || commit != api.ErrState || clean != api.ErrNone {
		t.Errorf("codes %d, %d, %d", give, commit, clean)
	}
	keepsNone(t, &k)
}
