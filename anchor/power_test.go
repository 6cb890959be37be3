package anchor_test

import (
	"reflect"
	"testing"

	"deedbox/anchor"
	"deedbox/api"
	"deedbox/cell"
	"deedbox/power"
)

// change is a call of a keeper that saves, and what an anchor is behind it.
type change struct {
	name string
	do   func(k *anchor.Keeper) api.Code
	make func(a api.Anchor) api.Anchor
}

func changes() []change {
	return []change{
		{"Save", func(k *anchor.Keeper) api.Code { return k.Save(right(5)) }, func(a api.Anchor) api.Anchor { return withSeq(right(5), a.Seq+1) }},
		{"Give", func(k *anchor.Keeper) api.Code { _, code := k.Give(); return code }, func(a api.Anchor) api.Anchor {
			a.Seq++
			a.Given++
			return a
		}},
		{"Commit", func(k *anchor.Keeper) api.Code { return k.Commit(301, 40, 9) }, func(a api.Anchor) api.Anchor {
			a.Seq++
			a.Epoch, a.Root, a.RootEpoch, a.Pending = 301, 40, 301, 9
			return a
		}},
		{"Clean", func(k *anchor.Keeper) api.Code { return k.Clean() }, func(a api.Anchor) api.Anchor {
			a.Seq++
			a.Pending = 0
			return a
		}},
	}
}

// TestPowerGoes: 14.6 to 14.8, the power goes at a change: that is told, and the keeper has the old one; opened anew it has the new one, if the write was done, else the old one.
func TestPowerGoes(t *testing.T) {
	for _, ch := range changes() {
		for saves := 1; saves < 5; saves++ {
			for _, done := range []bool{false, true} {
				c, p := newCell(t)
				k := open(t, c)
				for range saves {
					save(t, k, right(2))
				}
				old := withSeq(right(2), saves)
				p.Fuse(0, done)
				if code := ch.do(k); code != api.ErrDown {
					t.Errorf("%s: code %d", ch.name, code)
				}
				keeps(t, k, old)
				if code := ch.do(k); code != api.ErrDown {
					t.Errorf("%s, once more: code %d", ch.name, code)
				}
				keeps(t, k, old)
				p.Back()
				keeps(t, k, old)
				want := old
				if done {
					want = ch.make(old)
				}
				counts(t, open(t, c), want)
				if p.Steps() != saves+1 {
					t.Errorf("%s: %d steps", ch.name, p.Steps())
				}
			}
		}
	}
}

// TestFirstSaveLost: 14.8, of the first anchor of all there is the whole, or nothing.
func TestFirstSaveLost(t *testing.T) {
	for _, done := range []bool{false, true} {
		c, p := newCell(t)
		k := open(t, c)
		p.Fuse(0, done)
		if code := k.Save(right(2)); code != api.ErrDown {
			t.Errorf("code %d", code)
		}
		keepsNone(t, k)
		p.Back()
		if k = open(t, c); done {
			counts(t, k, withSeq(right(2), 1))
		} else {
			keepsNone(t, k)
		}
		save(t, k, right(3))
	}
}

// TestGiveLost: 14.7, of an epoch that is lost no number is told.
func TestGiveLost(t *testing.T) {
	for _, done := range []bool{false, true} {
		c, p := newCell(t)
		k := open(t, c)
		save(t, k, right(0))
		p.Fuse(0, done)
		if n, code := k.Give(); code != api.ErrDown || n != 0 {
			t.Errorf("%d, code %d", n, code)
		}
	}
}

// TestKeptOn: 14.6, a keeper that is not opened anew behind a loss goes on from the one that counts for it: what was lost is written over.
func TestKeptOn(t *testing.T) {
	for _, done := range []bool{false, true} {
		c, p := newCell(t)
		k := open(t, c)
		save(t, k, right(2))
		p.Fuse(0, done)
		k.Save(right(9))
		p.Back()
		save(t, k, right(3))
		counts(t, k, withSeq(right(3), 2))
	}
}

// world is a cell on its power, its keeper, and the anchors that may count by the chapter's words.
type world struct {
	p     *power.Power
	c     *cell.Cell
	k     *anchor.Keeper
	count api.Anchor // that counts; its number is 0 if none does
	goes  int        // how many writes are ahead of the one at which the power goes; below 0: none is
	done  bool
	down  bool
	kept  api.Anchor // that was written last
	given []int
}

func newWorld(t *testing.T) *world {
	c, p := newCell(t)
	return &world{p: p, c: c, k: open(t, c), goes: -1}
}

// saved is the chapter's words of Save.
func (w *world) saved(a api.Anchor) api.Code {
	a.Seq = w.count.Seq + 1
	if code := anchor.Check(a); code != api.OK {
		return code
	}
	if w.down {
		return api.ErrDown
	}
	w.down = w.goes == 0
	if w.goes >= 0 {
		w.goes--
	}
	if !w.down || w.done {
		w.kept = a
	}
	if w.down {
		return api.ErrDown
	}
	w.count = a
	return api.OK
}

// same tells whether the keeper has the anchor that counts.
func (w *world) same() bool {
	a, ok := w.k.Last()
	return ok == (w.count.Seq > 0) && reflect.DeepEqual(a, w.count)
}

// act is something that is done to both; false: it is not as the chapter's words have it.
type act func(w *world, seed int) bool

func saveAct(w *world, seed int) bool {
	a := numbered(seed, seed)
	a.Given, a.Epoch = w.kept.Given, w.kept.Epoch
	return w.k.Save(a) == w.saved(a)
}

func wrongAct(w *world, seed int) bool {
	a := right(1)
	a.Master = nil
	return w.k.Save(a) == api.ErrSize
}

func giveAct(w *world, seed int) bool {
	n, code := w.k.Give()
	if w.count.Seq == 0 {
		return n == 0 && code == api.ErrNone
	}
	a := w.count
	a.Given++
	want := w.saved(a)
	if want != api.OK {
		return n == 0 && code == want
	}
	w.given = append(w.given, n)
	return n == a.Given && code == api.OK
}

// commitAct commits the last epoch that was given, or one beside it.
func commitAct(beside int) act {
	return func(w *world, seed int) bool {
		a := w.count
		epoch := a.Given + beside
		code := w.k.Commit(epoch, seed%4096, seed%7)
		if a.Seq == 0 || epoch <= a.Epoch || epoch > a.Given {
			return code == api.ErrState
		}
		a.Epoch, a.Root, a.RootEpoch, a.Pending = epoch, seed%4096, epoch, seed%7
		return code == w.saved(a)
	}
}

func cleanAct(w *world, seed int) bool {
	code := w.k.Clean()
	if w.count.Seq == 0 {
		return code == api.ErrNone
	}
	a := w.count
	a.Pending = 0
	return code == w.saved(a)
}

func fuseAct(n int, done bool) act {
	return func(w *world, seed int) bool {
		w.p.Fuse(n, done)
		w.goes, w.done = n, done
		return true
	}
}

// backAct has the power come again, and the cell be opened anew: the one that was written last counts.
func backAct(w *world, seed int) bool {
	w.p.Back()
	old, ok := w.k.Last()
	k, code := anchor.Open(w.c)
	if code != api.OK {
		return false
	}
	w.k, w.count, w.down, w.goes = k, w.kept, false, -1
	a, _ := k.Last()
	// The old one, or the one behind it.
	return a.Seq == old.Seq || a.Seq == old.Seq+1 && (ok || a.Seq == 1)
}

func acts() []act {
	return []act{saveAct, wrongAct, giveAct, commitAct(0), commitAct(-1), commitAct(1), cleanAct, fuseAct(0, false), fuseAct(0, true), fuseAct(1, true), backAct}
}

// TestShortRows: 14.5 to 14.8, each row of four acts, upon a first save, against the chapter's words.
func TestShortRows(t *testing.T) {
	l := acts()
	for n := range len(l) * len(l) * len(l) * len(l) {
		w, left := newWorld(t), n
		if n%2 == 0 && !saveAct(w, 1) {
			t.Fatalf("row %d: no first save", n)
		}
		for i := range 4 {
			if !l[left%len(l)](w, i) || !w.same() {
				t.Fatalf("row %d, act %d: not as the chapter has it", n, i)
			}
			left /= len(l)
		}
		if !backAct(w, 0) || !w.same() {
			t.Fatalf("row %d: not as the chapter has it when it is opened anew", n)
		}
	}
}

// TestLongRows: 14.5 to 14.8, long rows of acts; no epoch is given twice; and P8, the same row again is the same.
func TestLongRows(t *testing.T) {
	l := append(acts(), giveAct, commitAct(0), giveAct, backAct)
	for seed := range uint32(20) {
		w, again, s := newWorld(t), newWorld(t), seed
		for i := range 500 {
			s = s*1664525 + 1013904223
			do := l[int(s>>16)%len(l)]
			if !do(w, i) || !w.same() || !do(again, i) || !again.same() {
				t.Fatalf("seed %d, act %d: not as the chapter has it", seed, i)
			}
		}
		if len(w.given) < 20 {
			t.Errorf("seed %d: %d epochs were given", seed, len(w.given))
		}
		for i := 1; i < len(w.given); i++ {
			if w.given[i] <= w.given[i-1] {
				t.Errorf("seed %d: epoch %d behind epoch %d", seed, w.given[i], w.given[i-1])
			}
		}
	}
}
