package redo_test

import (
	"bytes"
	"testing"

	"deedbox/api"
	"deedbox/disk"
	"deedbox/power"
	"deedbox/redo"
	"deedbox/seal"
	"deedbox/tape"
)

// noted is what a head in block 0 says, and by what it is sealed.
type noted struct {
	key, epoch int
	pages      []int
}

// world is a disk on its power, its sealer, and what is so by the chapter's words: the blocks as they are safe, the writes that wait, and of each sealed head what it says.
type world struct {
	d     *disk.Disk
	p     *power.Power
	s     *seal.Sealer
	safe  [][]byte
	waits []api.Image
	heads map[string]noted
	goes  int // how many steps are ahead of the one at which the power goes; below 0: none is
	done  bool
	down  bool
}

func newWorld(t *testing.T, size int, ideal bool) *world {
	d, p := newDisk(t, size)
	return &world{d: d, p: p, s: seal.New(ideal), safe: state(d), heads: map[string]noted{}, goes: -1}
}

// step is a step of the disk: is it done, and which code has it?
func (w *world) step() (bool, api.Code) {
	if w.down {
		return false, api.ErrDown
	}
	w.down = w.goes == 0
	if w.goes >= 0 {
		w.goes--
	}
	if w.down {
		return w.done, api.ErrDown
	}
	return true, api.OK
}

// look is what a block would be read as.
func (w *world) look(at int) []byte {
	b := w.safe[at]
	for _, x := range w.waits {
		if x.Page == at {
			b = x.Block
		}
	}
	return b
}

// settle has what waits be safe, as far as it is kept.
func (w *world) settle(keep []bool) {
	for i, x := range w.waits {
		if keep[i] {
			w.safe[x.Page] = x.Block
		}
	}
	w.waits = nil
}

func (w *world) write(at int, b []byte) api.Code {
	if at < 0 || at >= len(w.safe) {
		return api.ErrRange
	}
	if len(b) != 512 {
		return api.ErrSize
	}
	done, code := w.step()
	if done {
		w.waits = append(w.waits, api.Image{Page: at, Block: bytes.Clone(b)})
	}
	return code
}

func (w *world) flush() api.Code {
	done, code := w.step()
	if done {
		w.settle(bits(-1, len(w.waits)))
	}
	return code
}

// apply is the chapter's words of Apply.
func (w *world) apply(l []api.Image) api.Code {
	for _, x := range l {
		if code := w.write(x.Page, x.Block); code != api.OK {
			return code
		}
	}
	return w.flush()
}

// note is the chapter's words of Write: the head that came of sealing is not known ahead, it is taken as it was made.
func (w *world) note(key, epoch int, l []api.Image, head []byte) api.Code {
	if epoch < 0 {
		return api.ErrArg
	}
	if len(l) > 23 {
		return api.ErrFull
	}
	for _, x := range l {
		if x.Page < 0 || x.Page > 4095 || len(x.Block) != 512 {
			return api.ErrSize
		}
	}
	for i, x := range l {
		if code := w.write(i+1, x.Block); code != api.OK {
			return code
		}
	}
	w.heads[string(head)] = noted{key, epoch, pagesOf(l)}
	if code := w.write(0, full(head)); code != api.OK {
		return code
	}
	return w.flush()
}

// read is the chapter's words of Read.
func (w *world) read(key, epoch, n int) ([]api.Image, api.Code) {
	if epoch < 0 || n < 0 || n > 23 {
		return nil, api.ErrArg
	}
	if _, code := w.step(); code != api.OK {
		return nil, code
	}
	h, ok := w.heads[string(w.look(0)[:18+2*n])]
	if !ok || h.key != key || h.epoch != epoch || len(h.pages) != n {
		return nil, api.ErrIntegrity
	}
	var l []api.Image
	for i, page := range h.pages {
		if i+1 >= len(w.safe) {
			return nil, api.ErrRange
		}
		if _, code := w.step(); code != api.OK {
			return nil, code
		}
		l = append(l, api.Image{Page: page, Block: w.look(i + 1)})
	}
	return l, api.OK
}

// same tells whether the disk is as the model has it.
func (w *world) same() bool {
	if w.d.Loose() != len(w.waits) || w.p.Down() != w.down || w.s.Forged() {
		return false
	}
	for at := range w.safe {
		if !bytes.Equal(w.d.Look(at), w.look(at)) {
			return false
		}
	}
	return true
}

// act is something that is done to both; false: what is answered is not the same.
type act func(w *world, x int) bool

// someImages is images by a number: now and then too many, or wrong ones.
func someImages(size, x int) []api.Image {
	l := images(x%6, uint32(x%50))
	for i := range l {
		l[i].Page = (l[i].Page*x + i) % size
	}
	switch {
	case x%37 == 0:
		return images(24, 1)
	case x%31 == 0 && len(l) > 0:
		l[x%len(l)].Page = 4096 - x%3
	case x%29 == 0 && len(l) > 0:
		l[x%len(l)].Block = row(511+x%2*2, 1)
	}
	return l
}

// lastHead is the head that a call of Write would seal, as a sealer that is in the same place makes it.
func lastHead(s *seal.Sealer, made int, key, epoch int, l []api.Image) []byte {
	if s.Ideal() {
		return tape.Noise(uint64(made), 18+2*len(l))
	}
	b, _ := seal.New(false).Seal(keyOf(uint32(key)), nonceOf(epoch), besideOf(epoch), headOf(len(l), pagesOf(l)...))
	return b
}

func writeAct(w *world, x int) bool {
	key, epoch, l := x%2, x%5-x%41/40, someImages(len(w.safe), x)
	code := redo.Write(w.d, w.s, keyOf(uint32(key)), epoch, l)
	return code == w.note(key, epoch, l, lastHead(w.s, w.s.Sealed(), key, epoch, l))
}

func readAct(w *world, x int) bool {
	key, epoch, n := x%2, x%5-x%43/42, x%6-x%47/46
	return w.answers(key, epoch, n)
}

// lastAct reads by what the head says that stands in block 0, if one does.
func lastAct(w *world, x int) bool {
	for head, h := range w.heads {
		if bytes.HasPrefix(w.look(0), []byte(head)) {
			return w.answers(h.key, h.epoch, len(h.pages))
		}
	}
	return true
}

func (w *world) answers(key, epoch, n int) bool {
	got, code := redo.Read(w.d, w.s, keyOf(uint32(key)), epoch, n)
	want, as := w.read(key, epoch, n)
	return code == as && sameImages(got, want)
}

func applyAct(w *world, x int) bool {
	l := someImages(len(w.safe), x)
	return redo.Apply(w.d, l) == w.apply(l)
}

func fuseAct(w *world, x int) bool {
	w.goes, w.done = x%9, x%2 == 0
	w.p.Fuse(w.goes, w.done)
	return true
}

func backAct(w *world, x int) bool {
	keep := bits(x, len(w.waits))
	w.settle(keep)
	w.d.Crash(keep)
	w.p.Back()
	w.down, w.goes = false, -1
	return true
}

func pokeAct(w *world, x int) bool {
	at := x % min(len(w.safe), 6)
	b := turned(w.look(at), x%200)
	put(w.d, at, b)
	var left []api.Image
	for _, y := range w.waits {
		if y.Page != at {
			left = append(left, y)
		}
	}
	w.waits, w.safe[at] = left, b
	return true
}

// TestLongRows: 16.1 to 16.5, long rows of acts, with losses, and with somebody else, against the chapter's words behind each of them; and P8, the same row again is the same.
func TestLongRows(t *testing.T) {
	l := []act{writeAct, writeAct, writeAct, readAct, lastAct, lastAct, lastAct, applyAct, fuseAct, backAct, backAct, pokeAct}
	for _, size := range []int{1, 3, 6, 30} {
		for _, ideal := range []bool{true, false} {
			for seed := range uint32(4) {
				w, again, s := newWorld(t, size, ideal), newWorld(t, size, ideal), seed
				for i := range 400 {
					s = s*1664525 + 1013904223
					do, x := l[int(s>>16)%len(l)], int(s>>8)
					if !do(w, x) || !w.same() {
						t.Fatalf("%d blocks, ideal %t, seed %d, act %d: not as the chapter has it", size, ideal, seed, i)
					}
					if !do(again, x) || !again.same() {
						t.Fatalf("%d blocks, ideal %t, seed %d, act %d: not the same again", size, ideal, seed, i)
					}
				}
				if len(w.heads) == 0 {
					t.Errorf("%d blocks, seed %d: nothing was noted", size, seed)
				}
			}
		}
	}
}
