package sheaf_test

import (
	"bytes"
	"math"
	"testing"

	"deedbox/api"
)

// stores holds what Store answers, and how many pages there are then, against what is wanted.
func stores(t *testing.T, x interface {
	Store(page int, b []byte) api.Code
	Dirty() int
}, page int, b []byte, want api.Code, dirty int) {
	t.Helper()
	if code := x.Store(page, b); code != want || x.Dirty() != dirty {
		t.Errorf("Store of %d bytes in block %d: code %d, %d pages; want code %d, %d", len(b), page, code, x.Dirty(), want, dirty)
	}
}

// TestStore: 17.6, blocks that are taken, by the change or ahead of it; what was stored last counts, once; nothing is written.
func TestStore(t *testing.T) {
	for _, ideal := range kinds() {
		v, h := formatted(t, 34, ideal)
		old := made(t, h, 2, 1)
		x := begin(t, h)
		steps, sealed := v.p.Steps(), v.s.Sealed()
		takes(t, x, 2, 26)
		for i := range 4 {
			stores(t, x, 24+i, pageOf(11+i), api.OK, i+1)
			loads(t, x, 24+i, x.Epoch(), pageOf(11+i))
		}
		for i := range 4 {
			stores(t, x, 27-i, pageOf(21+i), api.OK, 4)
			loads(t, x, 27-i, x.Epoch(), pageOf(21+i))
		}
		if v.p.Steps() != steps || v.s.Sealed() != sealed {
			t.Errorf("%d steps, %d sealed", v.p.Steps()-steps, v.s.Sealed()-sealed)
		}
		loads(t, x, 24, old, pageOf(1))
		loads(t, h, 24, old, pageOf(1))
		refuses(t, h, 24, x.Epoch(), api.ErrIntegrity)
		commit(t, x, 24)
		for i := range 4 {
			loads(t, h, 27-i, x.Epoch(), pageOf(21+i))
			loads(t, x, 27-i, x.Epoch(), pageOf(21+i))
		}
		refuses(t, h, 24, old, api.ErrIntegrity)
		if v.s.Sealed() != sealed+5 {
			t.Errorf("%d sealed", v.s.Sealed()-sealed)
		}
	}
}

// TestStoreCodes: 17.6, in their order: bytes that are too few or too many; blocks of the log, that are free, that there are not.
func TestStoreCodes(t *testing.T) {
	_, h := formatted(t, 34, true)
	h.Space().Mark(24, 2)
	x := begin(t, h)
	takes(t, x, 2, 26)
	for _, n := range []int{0, 1, 495, 497, 511, 512, 513, 992} {
		for _, page := range []int{-1, 0, 24, 26, 28, 34} {
			stores(t, x, page, row(n, 1), api.ErrSize, 0)
		}
	}
	for _, page := range []int{0, 1, 22, 23, 28, 29, 33, 34, 35, 4095, 4096, 1<<32 + 24, -1, -24, math.MaxInt, math.MinInt} {
		stores(t, x, page, pageOf(1), api.ErrRange, 0)
	}
	for i := range 4 {
		stores(t, x, 24+i, pageOf(1), api.OK, i+1)
	}
	stores(t, x, 24, row(495, 1), api.ErrSize, 4)
	loads(t, x, 24, x.Epoch(), pageOf(1))
}

// TestStoreLastBlock: 17.6, the last block of a disk, and none on a disk that has the log alone.
func TestStoreLastBlock(t *testing.T) {
	_, h := formatted(t, 4096, true)
	x := begin(t, h)
	takes(t, x, 4072, 24)
	stores(t, x, 4095, pageOf(1), api.OK, 1)
	stores(t, x, 4096, pageOf(1), api.ErrRange, 1)
	commit(t, x, 4095)
	loads(t, h, 4095, 1, pageOf(1))
	_, h = formatted(t, 24, true)
	x = begin(t, h)
	for _, page := range []int{0, 23, 24, 25} {
		stores(t, x, page, pageOf(1), api.ErrRange, 0)
	}
}

// TestStoreOthersTaken: 17.5 and 17.6, what another change took and did not commit is not taken.
func TestStoreOthersTaken(t *testing.T) {
	_, h := formatted(t, 34, true)
	x := begin(t, h)
	takes(t, x, 2, 24)
	y := begin(t, h)
	stores(t, y, 24, pageOf(1), api.ErrRange, 0)
	takes(t, y, 1, 24)
	stores(t, y, 24, pageOf(1), api.OK, 1)
	stores(t, y, 25, pageOf(1), api.ErrRange, 1)
}

// TestStoreGiven: 17.5 and 17.6, a block that is given stays taken till the change is done: a page that is stored there behind that is stored; once the change is done it is taken no more.
func TestStoreGiven(t *testing.T) {
	_, h := formatted(t, 34, true)
	made(t, h, 2, 1)
	x := begin(t, h)
	x.Give(24, 1)
	stores(t, x, 24, pageOf(11), api.OK, 1)
	loads(t, x, 24, x.Epoch(), pageOf(11))
	commit(t, x, -1)
	loads(t, h, 24, x.Epoch(), pageOf(11))
	y := begin(t, h)
	stores(t, y, 24, pageOf(12), api.ErrRange, 0)
	takes(t, y, 1, 24)
	stores(t, y, 24, pageOf(12), api.OK, 1)
}

// TestChangeLoad: 17.6, of the change's own epoch what it stored, or nothing, wherever that is; of others the sheaf's Load, its codes, and its one step.
func TestChangeLoad(t *testing.T) {
	for _, ideal := range kinds() {
		v, h := formatted(t, 34, ideal)
		old := made(t, h, 2, 1)
		x := begin(t, h)
		store(t, x, 24, pageOf(11))
		steps := v.p.Steps()
		for _, page := range []int{-1, 0, 23, 25, 26, 33, 34, 4096, math.MaxInt, math.MinInt} {
			refuses(t, x, page, x.Epoch(), api.ErrNone)
		}
		loads(t, x, 24, x.Epoch(), pageOf(11))
		if v.p.Steps() != steps {
			t.Errorf("%d steps", v.p.Steps()-steps)
		}
		for _, epoch := range []int{-1, -x.Epoch(), math.MinInt} {
			refuses(t, x, 24, epoch, api.ErrArg)
		}
		loads(t, x, 24, old, pageOf(1))
		loads(t, x, 25, old, pageOf(2))
		for _, epoch := range []int{0, x.Epoch() + 1, math.MaxInt} {
			refuses(t, x, 24, epoch, api.ErrIntegrity)
		}
		refuses(t, x, 34, old, api.ErrRange)
		refuses(t, x, -1, old, api.ErrRange)
		if v.p.Steps() != steps+5 {
			t.Errorf("%d steps", v.p.Steps()-steps)
		}
		v.p.Fuse(0, true)
		refuses(t, x, 24, old, api.ErrDown)
		loads(t, x, 24, x.Epoch(), pageOf(11))
		refuses(t, x, 25, x.Epoch(), api.ErrNone)
	}
}

// TestChangeLoadTrustsNoDisk: 17.6, what is on the disk plays no part for what the change stored.
func TestChangeLoadTrustsNoDisk(t *testing.T) {
	v, h := formatted(t, 34, true)
	x := begin(t, h)
	takes(t, x, 1, 24)
	laid(v, masterOf(1), 24, x.Epoch(), pageOf(5))
	refuses(t, x, 24, x.Epoch(), api.ErrNone)
	store(t, x, 24, pageOf(1))
	put(v.d, 24, blockOf(9))
	loads(t, x, 24, x.Epoch(), pageOf(1))
}

// writes holds what Write answers against what is wanted.
func writes(t *testing.T, x interface {
	Write(at int, b []byte) api.Code
}, at int, b []byte, want api.Code) {
	t.Helper()
	if code := x.Write(at, b); code != want {
		t.Errorf("Write of %d bytes to block %d: code %d; want %d", len(b), at, code, want)
	}
}

// TestWrite: 17.6, blocks that the change took are written at once, as they are; they are safe when it is committed, with pages or without.
func TestWrite(t *testing.T) {
	for _, pages := range []int{0, 1} {
		v, h := formatted(t, 34, true)
		x := begin(t, h)
		takes(t, x, 3, 24)
		seen := len(v.d.Seen())
		writes(t, x, 24, blockOf(1), api.OK)
		writes(t, x, 26, blockOf(2), api.OK)
		writes(t, x, 24, blockOf(3), api.OK)
		want := []api.Touch{{Kind: api.TouchWrite, At: 24, Bytes: blockOf(1)}, {Kind: api.TouchWrite, At: 26, Bytes: blockOf(2)}, {Kind: api.TouchWrite, At: 24, Bytes: blockOf(3)}}
		if !sameTouches(v.d.Seen()[seen:], want) || v.d.Loose() != 3 || x.Dirty() != 0 || v.s.Sealed() != 0 {
			t.Errorf("%d touches, %d wait, %d pages, %d sealed", len(v.d.Seen())-seen, v.d.Loose(), x.Dirty(), v.s.Sealed())
		}
		if pages > 0 {
			store(t, x, 25, pageOf(1))
		}
		v.p.Fuse(pages+2, true)
		if code := x.Commit(25); code != api.ErrDown {
			t.Fatalf("Commit: code %d", code)
		}
		v.lose()
		h = v.open(t)
		for at, b := range map[int][]byte{24: blockOf(3), 26: blockOf(2)} {
			if got, code := h.Block(at); code != api.OK || !bytes.Equal(got, b) {
				t.Errorf("block %d: %d bytes, code %d", at, len(got), code)
			}
		}
	}
}

// TestWriteCodes: 17.6, in their order: blocks that others took, that are free, of the log, that there are not; then the disk's codes.
func TestWriteCodes(t *testing.T) {
	v, h := formatted(t, 34, true)
	made(t, h, 1, 1)
	h.Space().Mark(25, 1)
	other := begin(t, h)
	takes(t, other, 4, 26)
	x := begin(t, h)
	takes(t, x, 2, 26)
	before := state(v.d)
	for _, at := range []int{24, 25, 28, 29, 33, 34, 0, 1, 23, -1, 4095, 4096, 1<<32 + 26, math.MaxInt, math.MinInt} {
		writes(t, x, at, blockOf(1), api.ErrRange)
		writes(t, x, at, nil, api.ErrRange)
	}
	for _, n := range []int{0, 1, 496, 511, 513, 1024} {
		writes(t, x, 26, row(n, 1), api.ErrSize)
	}
	checkState(t, v.d, before)
	v.p.Fuse(0, false)
	writes(t, x, 26, blockOf(1), api.ErrDown)
	writes(t, x, 26, blockOf(1), api.ErrDown)
	writes(t, x, 26, row(511, 1), api.ErrSize)
	writes(t, x, 28, row(511, 1), api.ErrRange)
	checkState(t, v.d, before)
}

// TestWriteGiven: 17.6, a block that the change took, and gave back, was taken by it; one that it gave, and did not take, was not.
func TestWriteGiven(t *testing.T) {
	_, h := formatted(t, 34, true)
	made(t, h, 1, 1)
	x := begin(t, h)
	takes(t, x, 1, 25)
	x.Give(24, 2)
	writes(t, x, 25, blockOf(1), api.OK)
	writes(t, x, 24, blockOf(1), api.ErrRange)
}

// TestWriteOnce: 17.5 and 17.6, what a change that is done took is not taken by the next one.
func TestWriteOnce(t *testing.T) {
	_, h := formatted(t, 34, true)
	x := begin(t, h)
	takes(t, x, 2, 24)
	writes(t, x, 24, blockOf(1), api.OK)
	commit(t, x, -1)
	y := begin(t, h)
	writes(t, y, 24, blockOf(2), api.ErrRange)
	if b, code := h.Block(24); code != api.OK || !bytes.Equal(b, blockOf(1)) {
		t.Errorf("%d bytes, code %d", len(b), code)
	}
	stores(t, y, 24, pageOf(1), api.OK, 1)
}
