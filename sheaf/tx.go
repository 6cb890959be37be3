package sheaf

import (
	"bytes"
	"maps"
	"slices"

	"deedbox/api"
	"deedbox/redo"
	"deedbox/space"
)

// Tx is a change: pages of an epoch of its own, blocks that it took, and blocks that it gives back when it is done. The sheaf knows nothing of it till then: a change that is left alone needs no undoing.
type Tx struct {
	sheaf *Sheaf
	epoch int
	took  map[int]struct{}
	gives map[int]struct{}
	pages map[int][]byte
	ended bool
}

func newTx(h *Sheaf, epoch int) *Tx {
	return &Tx{sheaf: h, epoch: epoch, took: map[int]struct{}{}, gives: map[int]struct{}{}, pages: map[int][]byte{}}
}

// loose tells whether the change is of no sheaf, as Begin did not make it: then there are no blocks for it.
func (t *Tx) loose() bool { return t.sheaf == nil }

// Epoch is the change's epoch.
func (t *Tx) Epoch() int { return t.epoch }

// Take takes a run of free blocks.
func (t *Tx) Take(n int) (int, api.Code) {
	if t.loose() {
		return 0, api.ErrNoSpace
	}
	at, code := t.space().Take(n)
	if code != api.OK {
		return 0, code
	}
	for i := range n {
		t.took[at+i] = struct{}{}
	}
	return at, api.OK
}

// Give has a run of blocks be free, once the change is done.
func (t *Tx) Give(at, n int) {
	if !t.holds(at, n) {
		return
	}
	for i := range n {
		t.gives[at+i] = struct{}{}
	}
	for page := range t.pages {
		if page >= at && page < at+n {
			delete(t.pages, page)
		}
	}
}

// Load is a page, as it was written in an epoch, perhaps by this change.
func (t *Tx) Load(page, epoch int) ([]byte, api.Code) {
	if epoch != t.epoch && !t.loose() {
		return t.sheaf.Load(page, epoch)
	}
	b, ok := t.pages[page]
	if !ok {
		return nil, api.ErrNone
	}
	return bytes.Clone(b), api.OK
}

// Store has a page be this, when the change is done.
func (t *Tx) Store(page int, b []byte) api.Code {
	if len(b) != api.Room {
		return api.ErrSize
	}
	if !t.holds(page, 1) {
		return api.ErrRange
	}
	t.pages[page] = bytes.Clone(b)
	return api.OK
}

// Dirty is how many pages the change has.
func (t *Tx) Dirty() int { return len(t.pages) }

// Write writes a block that the change took, as it is. Nothing that counts stands there: it need not be noted ahead.
func (t *Tx) Write(at int, b []byte) api.Code {
	if !t.tookIt(at) {
		return api.ErrRange
	}
	return t.sheaf.disk.Write(at, b)
}

// Commit has the change be done, wholly or not at all: its root is that.
func (t *Tx) Commit(root int) api.Code {
	if t.ended || t.loose() {
		return api.ErrState
	}
	if t.Dirty() > redo.Most {
		return api.ErrFull
	}
	// Sealed once more its pages would take their nonces a second time.
	t.ended = true
	l, code := t.images()
	if code != api.OK {
		return code
	}
	h := t.sheaf
	// Without pages, too: what the change wrote has to be flushed ahead of the anchor.
	if code := redo.Write(h.disk, h.sealer, h.logKey, t.epoch, l); code != api.OK {
		return code
	}
	if code := h.keeper.Commit(t.epoch, root, len(l)); code != api.OK {
		return code
	}
	t.handOver()
	return h.settle(l)
}

// images is the pages that are stored, sealed, by rising blocks.
func (t *Tx) images() ([]api.Image, api.Code) {
	var l []api.Image
	for _, page := range slices.Sorted(maps.Keys(t.pages)) {
		b, code := t.sheaf.sealed(page, t.epoch, t.pages[page])
		if code != api.OK {
			return nil, code
		}
		l = append(l, api.Image{Page: page, Block: b})
	}
	return l, api.OK
}

// handOver has the sheaf know which blocks are taken now: what is both taken and given back by the change is free.
func (t *Tx) handOver() {
	t.markTaken(t.sheaf.space)
	for at := range t.gives {
		t.sheaf.space.Give(at, 1)
	}
}

// space is which blocks are taken for the change: those of the sheaf, and its own.
func (t *Tx) space() *space.Space {
	s := t.sheaf.space.Copy()
	t.markTaken(s)
	return s
}

func (t *Tx) markTaken(s *space.Space) {
	for at := range t.took {
		s.Mark(at, 1)
	}
}

// holds tells whether a run lies behind the log, within all blocks, and each block of it is taken. The place where it ends is not worked out ahead of that: the sum could wrap round.
func (t *Tx) holds(at, n int) bool {
	if t.loose() || n < 1 || at < redo.Blocks || at > t.sheaf.space.Size()-n {
		return false
	}
	for i := range n {
		if !t.tookIt(at+i) && !t.sheaf.space.Taken(at+i) {
			return false
		}
	}
	return true
}

func (t *Tx) tookIt(at int) bool {
	_, ok := t.took[at]
	return ok
}
