package sheaf_test

import (
	"bytes"
	"crypto/aes"
	"crypto/cipher"
	"crypto/hkdf"
	"crypto/sha256"
	"encoding/binary"
	"testing"

	"deedbox/anchor"
	"deedbox/api"
	"deedbox/cell"
	"deedbox/disk"
	"deedbox/power"
	"deedbox/seal"
	"deedbox/sheaf"
)

// row is so many bytes, of its own for each seed.
func row(n int, seed uint32) []byte {
	b := make([]byte, n)
	x := seed*2654435761 + 1
	for i := range b {
		x = x*1664525 + 1013904223
		b[i] = byte(x >> 24)
	}
	return b
}

func masterOf(seed uint32) []byte { return row(32, seed+5000) }

func pageOf(seed int) []byte { return row(496, uint32(seed)) }

func blockOf(seed int) []byte { return row(512, uint32(seed)) }

// devices is a disk and a cell on one power, and a sealer.
type devices struct {
	p *power.Power
	d *disk.Disk
	c *cell.Cell
	s *seal.Sealer
}

func newDevices(t *testing.T, size int, ideal bool) *devices {
	t.Helper()
	p := power.New()
	d, code := disk.New(p, size)
	if code != api.OK {
		t.Fatalf("a disk of %d blocks: code %d", size, code)
	}
	c, code := cell.New(p)
	if code != api.OK {
		t.Fatalf("a cell: code %d", code)
	}
	return &devices{p: p, d: d, c: c, s: seal.New(ideal)}
}

// keeper is the cell's keeper, opened anew.
func (v *devices) keeper(t *testing.T) *anchor.Keeper {
	t.Helper()
	k, code := anchor.Open(v.c)
	if code != api.OK {
		t.Fatalf("the keeper: code %d", code)
	}
	return k
}

// open is the sheaf on the devices, opened anew, with a keeper that is opened anew.
func (v *devices) open(t *testing.T) *sheaf.Sheaf {
	t.Helper()
	h, code := sheaf.Open(v.d, v.s, v.keeper(t))
	if code != api.OK {
		t.Fatalf("ideal %t: Open: code %d", v.s.Ideal(), code)
	}
	return h
}

// lose is a crash that keeps some of what waits; the power is there again.
func (v *devices) lose(keep ...bool) {
	v.d.Crash(keep)
	v.p.Back()
}

// formatted is devices of a disk of so many blocks, and the sheaf on them, under the first master key.
func formatted(t *testing.T, size int, ideal bool) (*devices, *sheaf.Sheaf) {
	t.Helper()
	v := newDevices(t, size, ideal)
	if code := sheaf.Format(v.keeper(t), masterOf(1)); code != api.OK {
		t.Fatalf("Format: code %d", code)
	}
	return v, v.open(t)
}

// kinds is both kinds of sealers, the ideal one first.
func kinds() []bool { return []bool{true, false} }

func begin(t *testing.T, h *sheaf.Sheaf) *sheaf.Tx {
	t.Helper()
	x, code := h.Begin()
	if code != api.OK || x == nil {
		t.Fatalf("Begin: code %d", code)
	}
	return x
}

// takes takes a run, and holds its first block against what is wanted.
func takes(t *testing.T, x *sheaf.Tx, n, want int) {
	t.Helper()
	if at, code := x.Take(n); at != want || code != api.OK {
		t.Fatalf("Take of %d: %d, code %d; want %d", n, at, code, want)
	}
}

func store(t *testing.T, x *sheaf.Tx, page int, b []byte) {
	t.Helper()
	if code := x.Store(page, b); code != api.OK {
		t.Fatalf("Store of page %d: code %d", page, code)
	}
}

func commit(t *testing.T, x *sheaf.Tx, root int) {
	t.Helper()
	if code := x.Commit(root); code != api.OK {
		t.Fatalf("Commit of epoch %d: code %d", x.Epoch(), code)
	}
}

// made is a change that took so many blocks, stored a page of its own in each, and was committed: its epoch.
func made(t *testing.T, h *sheaf.Sheaf, n, first int) int {
	t.Helper()
	x := begin(t, h)
	at, code := x.Take(n)
	if code != api.OK {
		t.Fatalf("Take of %d: code %d", n, code)
	}
	for i := range n {
		store(t, x, at+i, pageOf(first+i))
	}
	commit(t, x, at)
	return x.Epoch()
}

// loader is a sheaf, or a change of it.
type loader interface {
	Load(page, epoch int) ([]byte, api.Code)
}

func loads(t *testing.T, l loader, page, epoch int, want []byte) {
	t.Helper()
	if b, code := l.Load(page, epoch); code != api.OK || !bytes.Equal(b, want) {
		t.Errorf("Load of page %d of epoch %d: %d bytes, code %d; want code 0, and others", page, epoch, len(b), code)
	}
}

func refuses(t *testing.T, l loader, page, epoch int, want api.Code) {
	t.Helper()
	if b, code := l.Load(page, epoch); code != want || len(b) != 0 {
		t.Errorf("Load of page %d of epoch %d: %d bytes, code %d; want code %d", page, epoch, len(b), code, want)
	}
}

// last is the anchor that counts.
func last(t *testing.T, k *anchor.Keeper) api.Anchor {
	t.Helper()
	a, ok := k.Last()
	if !ok {
		t.Fatal("no anchor counts")
	}
	return a
}

func checkAnchor(t *testing.T, k *anchor.Keeper, want api.Anchor) {
	t.Helper()
	if got, ok := k.Last(); !ok || !anchor.Same(got, want) {
		t.Errorf("the anchor is %+v, %t; want %+v", got, ok, want)
	}
}

// free is which blocks of a sheaf are free, by its space.
func free(h *sheaf.Sheaf) []int {
	var l []int
	for at := range h.Space().Size() {
		if !h.Space().Taken(at) {
			l = append(l, at)
		}
	}
	return l
}

// run is the numbers of a run.
func run(at, n int) []int {
	var l []int
	for i := range n {
		l = append(l, at+i)
	}
	return l
}

// nonceOf is a page's nonce, byte by byte.
func nonceOf(page, epoch int) []byte {
	b := binary.BigEndian.AppendUint64(nil, uint64(epoch))
	return binary.BigEndian.AppendUint32(b, uint32(page))
}

// besideOf is what stands beside a page, byte by byte.
func besideOf(page int) []byte {
	b := append([]byte{0, 0, 0, 4}, "page"...)
	return binary.BigEndian.AppendUint32(append(b, 0, 0, 0, 4), uint32(page))
}

// logNonce and logBeside are those of the log's head.
func logNonce(epoch int) []byte {
	return append(binary.BigEndian.AppendUint64(nil, uint64(epoch)), 255, 255, 255, 255)
}

func logBeside(epoch int) []byte {
	b := append([]byte{0, 0, 0, 3}, "log"...)
	return binary.BigEndian.AppendUint64(append(b, 0, 0, 0, 8), uint64(epoch))
}

// headOf is the log's head ahead of sealing.
func headOf(pages ...int) []byte {
	b := binary.BigEndian.AppendUint16(nil, uint16(len(pages)))
	for _, p := range pages {
		b = binary.BigEndian.AppendUint16(b, uint16(p))
	}
	return b
}

// derived is the key for an end that Go's own library makes of a master key.
func derived(t *testing.T, master []byte, what string) []byte {
	t.Helper()
	key, err := hkdf.Key(sha256.New, master, nil, string(binary.BigEndian.AppendUint32(nil, uint32(len(what))))+what, 32)
	if err != nil {
		t.Fatal(err)
	}
	return key
}

// library seals as Go's own library does.
func library(t *testing.T, key []byte) cipher.AEAD {
	t.Helper()
	b, err := aes.NewCipher(key)
	if err != nil {
		t.Fatal(err)
	}
	g, err := cipher.NewGCM(b)
	if err != nil {
		t.Fatal(err)
	}
	return g
}

// put puts bytes to a block, and they are safe; no step.
func put(d *disk.Disk, at int, b []byte) { d.Poke(api.Poke{At: at, Kind: api.PokeBytes, Bytes: b}) }

// turned is bytes with one bit of them turned.
func turned(b []byte, bit int) []byte {
	b = bytes.Clone(b)
	b[bit/8] ^= 1 << (bit % 8)
	return b
}

// state is what all blocks would be read as.
func state(d *disk.Disk) [][]byte {
	var l [][]byte
	for at := range d.Size() {
		l = append(l, d.Look(at))
	}
	return l
}

func checkState(t *testing.T, d *disk.Disk, want [][]byte) {
	t.Helper()
	for at, b := range want {
		if !bytes.Equal(d.Look(at), b) {
			t.Errorf("block %d begins with %x; want %x", at, d.Look(at)[:8], b[:8])
		}
	}
}

func sameTouches(a, b []api.Touch) bool {
	if len(a) != len(b) {
		return false
	}
	for i, x := range a {
		if x.Kind != b[i].Kind || x.At != b[i].At || !bytes.Equal(x.Bytes, b[i].Bytes) {
			return false
		}
	}
	return true
}

// bits is the lowest n bits of a number, as a row.
func bits(x, n int) []bool {
	var l []bool
	for i := range n {
		l = append(l, x>>i&1 == 1)
	}
	return l
}

// TestExample: the chapter's example, a change of two pages, the power gone at the anchor's commit: both are there, or neither, as the cell says.
func TestExample(t *testing.T) {
	for _, ideal := range kinds() {
		for _, done := range []bool{false, true} {
			v, h := formatted(t, 34, ideal)
			old := made(t, h, 2, 1)
			x := begin(t, h)
			store(t, x, 24, pageOf(11))
			store(t, x, 25, pageOf(12))
			v.p.Fuse(4, done)
			if code := x.Commit(24); code != api.ErrDown || !v.p.Down() {
				t.Fatalf("code %d", code)
			}
			v.lose()
			h = v.open(t)
			if done {
				loads(t, h, 24, x.Epoch(), pageOf(11))
				loads(t, h, 25, x.Epoch(), pageOf(12))
				refuses(t, h, 24, old, api.ErrIntegrity)
				refuses(t, h, 25, old, api.ErrIntegrity)
			} else {
				loads(t, h, 24, old, pageOf(1))
				loads(t, h, 25, old, pageOf(2))
				refuses(t, h, 24, x.Epoch(), api.ErrIntegrity)
				refuses(t, h, 25, x.Epoch(), api.ErrIntegrity)
			}
		}
	}
}
