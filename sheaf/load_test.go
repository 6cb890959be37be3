package sheaf_test

import (
	"bytes"
	"math"
	"testing"

	"deedbox/api"
	"deedbox/octet"
	"deedbox/seal"
	"deedbox/sheaf"
)

// TestPagesMakeUp: the chapter's words, the nonce and what stands beside a page, as the tests have them, are what seal.Nonce and octet.Pack make of these; a page has 496 bytes.
func TestPagesMakeUp(t *testing.T) {
	if api.Room != 496 || api.Block != 512 {
		t.Errorf("%d, %d", api.Room, api.Block)
	}
	for _, page := range []int{24, 255, 256, 4095} {
		for _, epoch := range []int{0, 1, 300, 1 << 40} {
			if got, want := nonceOf(page, epoch), seal.Nonce(uint64(epoch), uint32(page)); !bytes.Equal(got, want) {
				t.Errorf("page %d, epoch %d: %x; want %x", page, epoch, got, want)
			}
		}
		if got, want := besideOf(page), octet.Pack([]byte("page"), octet.Put(uint64(page), 4)); !bytes.Equal(got, want) {
			t.Errorf("page %d: %x; want %x", page, got, want)
		}
	}
}

// laid is a page that the tests seal themselves, and lay on the disk.
func laid(v *devices, master []byte, page, epoch int, b []byte) {
	sealed, _ := v.s.Seal(v.s.Derive(master, []byte("page")), nonceOf(page, epoch), besideOf(page), b)
	put(v.d, page, sealed)
}

// TestLoad: 17.3, pages of any block and of any epoch, sealed as the chapter's words say; a read of that block is all that is seen.
func TestLoad(t *testing.T) {
	for _, ideal := range kinds() {
		v, h := formatted(t, 4096, ideal)
		for i, page := range []int{24, 25, 255, 256, 1000, 4095} {
			for j, epoch := range []int{0, 1, 255, 256, 1 << 32, 1 << 40, math.MaxInt} {
				b := pageOf(10*i + j)
				laid(v, masterOf(1), page, epoch, b)
				seen := len(v.d.Seen())
				loads(t, h, page, epoch, b)
				if got := v.d.Seen()[seen:]; !sameTouches(got, []api.Touch{{Kind: api.TouchRead, At: page}}) {
					t.Errorf("page %d: %v was seen", page, got)
				}
			}
		}
		if v.s.Forged() || v.s.Reused() {
			t.Errorf("forged %t, reused %t", v.s.Forged(), v.s.Reused())
		}
	}
}

// TestLoadAsTheStandards: 17.3 and P5, for real, what Go's own library sealed under the keys that it derived is loaded.
func TestLoadAsTheStandards(t *testing.T) {
	v, h := formatted(t, 40, false)
	g := library(t, derived(t, masterOf(1), "page"))
	put(v.d, 30, g.Seal(nil, nonceOf(30, 77), pageOf(5), besideOf(30)))
	loads(t, h, 30, 77, pageOf(5))
	if !v.s.Forged() {
		t.Error("the sealer did not seal it, and did not tell")
	}
}

// TestLoadCodes: 17.3, in their order: an epoch below 0, no such block, the power gone, what does not open.
func TestLoadCodes(t *testing.T) {
	for _, ideal := range kinds() {
		v, h := formatted(t, 30, ideal)
		made(t, h, 1, 1)
		for _, epoch := range []int{-1, -2, math.MinInt} {
			for _, page := range []int{-1, 0, 24, 30, math.MaxInt} {
				refuses(t, h, page, epoch, api.ErrArg)
			}
		}
		for _, page := range []int{-1, -2, 30, 31, 4096, 1<<32 + 24, math.MaxInt, math.MinInt} {
			refuses(t, h, page, 1, api.ErrRange)
		}
		steps := v.p.Steps()
		for page := range 30 {
			if page != 24 {
				refuses(t, h, page, 1, api.ErrIntegrity)
			}
		}
		if v.p.Steps() != steps+29 {
			t.Errorf("%d steps", v.p.Steps()-steps)
		}
		v.p.Fuse(0, true)
		refuses(t, h, 24, 1, api.ErrDown)
		refuses(t, h, 24, 1, api.ErrDown)
		refuses(t, h, 30, 1, api.ErrRange)
		refuses(t, h, 30, -1, api.ErrArg)
		v.lose()
		loads(t, h, 24, 1, pageOf(1))
	}
}

// TestLoadAsItIsAlone: 17.3, a page is not loaded as one of another epoch, block or key, nor with a bit of it turned.
func TestLoadAsItIsAlone(t *testing.T) {
	for _, ideal := range kinds() {
		v, h := formatted(t, 30, ideal)
		laid(v, masterOf(1), 25, 5, pageOf(1))
		for _, epoch := range []int{0, 1, 4, 6, 5 + 256, 5 + 1<<32, 5 + 1<<40} {
			refuses(t, h, 25, epoch, api.ErrIntegrity)
		}
		for _, page := range []int{0, 23, 24, 26, 29} {
			v.d.Poke(api.Poke{At: page, Kind: api.PokeCopy, N: 25})
			refuses(t, h, page, 5, api.ErrIntegrity)
		}
		was := v.d.Look(25)
		for bit := 0; bit < 8*512; bit += 5 {
			put(v.d, 25, turned(was, bit))
			refuses(t, h, 25, 5, api.ErrIntegrity)
		}
		laid(v, masterOf(2), 25, 5, pageOf(1))
		refuses(t, h, 25, 5, api.ErrIntegrity)
		put(v.d, 25, was)
		loads(t, h, 25, 5, pageOf(1))
	}
}

// TestLoadNotOfOtherEnds: 17.3, what is sealed under the log's key, or the master key itself, or beside something else is no page.
func TestLoadNotOfOtherEnds(t *testing.T) {
	for _, ideal := range kinds() {
		v, h := formatted(t, 30, ideal)
		page := v.s.Derive(masterOf(1), []byte("page"))
		for i, x := range []struct{ key, beside []byte }{
			{v.s.Derive(masterOf(1), []byte("log")), besideOf(24)},
			{masterOf(1), besideOf(24)},
			{v.s.Derive(masterOf(1)), besideOf(24)},
			{v.s.Derive(masterOf(1), []byte("pa"), []byte("ge")), besideOf(24)},
			{page, besideOf(25)},
			{page, besideOf(24)[4:]},
			{page, nil},
			{page, append(besideOf(24), 0)},
		} {
			sealed, _ := v.s.Seal(x.key, nonceOf(24, 1), x.beside, pageOf(1))
			put(v.d, 24, sealed)
			if b, code := h.Load(24, 1); code != api.ErrIntegrity || len(b) != 0 {
				t.Errorf("%d: %d bytes, code %d", i, len(b), code)
			}
		}
	}
}

// TestBlock: 17.3, a block as it stands on the disk, that of the log, too; the disk's codes.
func TestBlock(t *testing.T) {
	v, h := formatted(t, 30, true)
	for at := range 30 {
		put(v.d, at, blockOf(at))
		if b, code := h.Block(at); code != api.OK || !bytes.Equal(b, blockOf(at)) {
			t.Errorf("block %d: %d bytes, code %d", at, len(b), code)
		}
	}
	v.d.Write(25, blockOf(99))
	if b, code := h.Block(25); code != api.OK || !bytes.Equal(b, blockOf(99)) {
		t.Errorf("a write that waits: %d bytes, code %d", len(b), code)
	}
	for _, at := range []int{-1, 30, 31, 4096, math.MaxInt, math.MinInt} {
		if b, code := h.Block(at); code != api.ErrRange || len(b) != 0 {
			t.Errorf("block %d: %d bytes, code %d", at, len(b), code)
		}
	}
	v.p.Fuse(0, true)
	for range 2 {
		if b, code := h.Block(25); code != api.ErrDown || len(b) != 0 {
			t.Errorf("the power gone: %d bytes, code %d", len(b), code)
		}
	}
	if got := len(v.d.Seen()); got != 33 {
		t.Errorf("%d touches", got)
	}
}

// TestTwoSheafs: 17.2 and 17.3, two on one sealer, of unlike master keys: neither loads the other's pages.
func TestTwoSheafs(t *testing.T) {
	for _, ideal := range kinds() {
		v, h := formatted(t, 30, ideal)
		w := newDevices(t, 30, ideal)
		w.s = v.s
		sheaf.Format(w.keeper(t), masterOf(2))
		g := w.open(t)
		made(t, h, 2, 1)
		made(t, g, 2, 3)
		loads(t, h, 24, 1, pageOf(1))
		loads(t, g, 24, 1, pageOf(3))
		put(w.d, 24, v.d.Look(24))
		refuses(t, g, 24, 1, api.ErrIntegrity)
		if v.s.Reused() {
			t.Error("a nonce was used twice")
		}
	}
}
