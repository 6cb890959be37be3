package extent_test

import (
	"testing"

	"deedbox/api"
	"deedbox/extent"
)

// acts is what a change does with texts: it frees the first one, and writes others; what is to stand there then.
func acts(t *testing.T, w *world) (func() api.Code, func() []text) {
	t.Helper()
	x := w.begin(t)
	var now []text
	do := func() api.Code {
		extent.Free(x, w.texts[0].run)
		now = append(now, w.texts[1:]...)
		for i, size := range []int{0, 600, 496} {
			y := text{fromOf(50 + i), row(i, 7), row(size, uint32(50+i)), extent.Run{}}
			var code api.Code
			if y.run, code = extent.Write(x, w.s, y.from, y.what, y.bytes); code != api.OK {
				if y.run != (extent.Run{}) {
					t.Errorf("%v beside code %d", y.run, code)
				}
				return code
			}
			now = append(now, y)
		}
		return x.Commit(-1)
	}
	done := func() []text {
		if a, ok := w.h.Keeper().Last(); ok && a.Epoch == x.Epoch() {
			return now
		}
		return w.texts
	}
	return do, done
}

// TestPower: 20.1, 20.3 and 20.4, the power going at each step of a change, whichever blocks are kept: behind that its texts are there, all bytes as they were, or those ahead of it are; no block is of two.
func TestPower(t *testing.T) {
	for _, ideal := range kinds() {
		for step, code := 0, api.ErrDown; code != api.OK; step++ {
			for kept := range 8 {
				w := made(t, 40, ideal)
				w.put(t, 600, 1)
				w.put(t, 1000, 2)
				w.drop(t)
				w.put(t, 3, 3)
				w.put(t, 0, 4)
				do, done := acts(t, w)
				w.p.Fuse(step, kept%2 == 0)
				if code = do(); code != api.ErrDown && code != api.OK {
					t.Fatalf("step %d: code %d", step, code)
				}
				was := w.texts
				var keep []bool
				for i := range w.d.Loose() {
					keep = append(keep, kept/2 == 1 || kept/2 == 2 && i%2 == 0 || kept/2 == 3 && i%2 == 1)
				}
				w.lose(keep...)
				w.texts = nil
				w.open(t)
				w.texts = was
				w.texts = done()
				w.open(t)
				w.check(t)
				if code == api.OK && len(w.texts) == len(was) {
					t.Errorf("step %d: it was done, and is not there", step)
				}
				w.put(t, 700, 5)
				w.check(t)
			}
		}
	}
}

// TestFreeDown: 20.3, a change that is done as the power goes frees what it gives, at once; one that is not, nothing.
func TestFreeDown(t *testing.T) {
	for step := range 4 {
		for _, said := range []bool{false, true} {
			w := made(t, 30, true)
			w.put(t, 600, 1)
			w.put(t, 3, 2)
			x := w.begin(t)
			extent.Free(x, w.texts[0].run)
			w.p.Fuse(step, said)
			// Of a change without pages the head is written, and flushed; nothing is applied, but flushed; the anchor is between.
			code := x.Commit(-1)
			if code != api.ErrDown {
				t.Fatalf("step %d: code %d", step, code)
			}
			free := len(w.free())
			w.lose()
			if a, ok := w.keeper(t).Last(); ok && a.Epoch == x.Epoch() {
				w.texts = w.texts[1:]
			}
			if step > 2 && free != 5 || step < 2 && free != 3 {
				t.Errorf("step %d: %d are free", step, free)
			}
			w.open(t)
			w.check(t)
		}
	}
}

// TestKept: 20.4, what a change wrote is safe when it is done: no loss behind that, whatever is kept of what waits, takes any of it.
func TestKept(t *testing.T) {
	for _, ideal := range kinds() {
		w := made(t, 200, ideal)
		for i, size := range sizes() {
			w.put(t, size, i)
			if w.d.Loose() != 0 {
				t.Errorf("%d blocks wait", w.d.Loose())
			}
			x := w.begin(t)
			w.write(t, x, fromOf(100+i), nil, row(size, 3))
			w.p.Fuse(0, false)
			w.lose(i%2 == 0, true, false, true)
			w.open(t)
			w.check(t)
		}
	}
}
