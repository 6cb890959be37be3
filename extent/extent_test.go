package extent_test

import (
	"bytes"
	"crypto/aes"
	"crypto/cipher"
	"crypto/hkdf"
	"crypto/sha256"
	"encoding/binary"
	"slices"
	"testing"

	"deedbox/anchor"
	"deedbox/api"
	"deedbox/cell"
	"deedbox/disk"
	"deedbox/extent"
	"deedbox/power"
	"deedbox/redo"
	"deedbox/seal"
	"deedbox/sheaf"
)

// row is so many bytes, of its own for each seed.
func row(n int, seed uint32) []byte {
	b := make([]byte, n)
	x := seed*2654435761 + 1
	for i := range b {
		x = x*1664525 + 1013904223
		b[i] = byte(x >> 24)
	}
	return b
}

// fromOf is a key of which those of texts come, of its own for each seed.
func fromOf(seed int) []byte { return row(32, uint32(seed)+5000) }

// sizes is lengths of texts: those about the ends of pieces, and of several pieces.
func sizes() []int { return []int{0, 1, 2, 495, 496, 497, 600, 991, 992, 993, 1488, 1489, 3000} }

// kinds is both kinds of sealers, the ideal one first.
func kinds() []bool { return []bool{true, false} }

// blocksOf is how many blocks a text of so many bytes has, counted one by one.
func blocksOf(size int) int {
	n := 1
	for size > 496 {
		size -= 496
		n++
	}
	return n
}

// text is one that was written, by what, and where.
type text struct {
	from, what, bytes []byte
	run               extent.Run
}

// world is devices, a sheaf on them, and the texts that are to stand there.
type world struct {
	p     *power.Power
	d     *disk.Disk
	c     *cell.Cell
	s     *seal.Sealer
	h     *sheaf.Sheaf
	texts []text
}

// made is a sheaf without texts, on a disk of so many blocks.
func made(t *testing.T, size int, ideal bool) *world {
	t.Helper()
	p := power.New()
	d, code := disk.New(p, size)
	if code != api.OK {
		t.Fatalf("a disk of %d blocks: code %d", size, code)
	}
	c, code := cell.New(p)
	if code != api.OK {
		t.Fatalf("a cell: code %d", code)
	}
	w := &world{p: p, d: d, c: c, s: seal.New(ideal)}
	if code := sheaf.Format(w.keeper(t), row(32, 1)); code != api.OK {
		t.Fatalf("Format: code %d", code)
	}
	w.open(t)
	return w
}

func (w *world) keeper(t *testing.T) *anchor.Keeper {
	t.Helper()
	k, code := anchor.Open(w.c)
	if code != api.OK {
		t.Fatalf("a keeper: code %d", code)
	}
	return k
}

// open opens cell and sheaf anew, and marks the blocks of the texts that are to stand there: none may be marked twice.
func (w *world) open(t *testing.T) {
	t.Helper()
	var code api.Code
	if w.h, code = sheaf.Open(w.d, w.s, w.keeper(t)); code != api.OK {
		t.Fatalf("Open: code %d", code)
	}
	for _, x := range w.texts {
		if code := w.h.Space().Mark(x.run.At, x.run.Blocks()); code != api.OK {
			t.Fatalf("run %v: code %d", x.run, code)
		}
	}
}

// lose is a crash that keeps some of what waits; the power is there again.
func (w *world) lose(keep ...bool) {
	w.d.Crash(keep)
	w.p.Back()
}

func (w *world) begin(t *testing.T) *sheaf.Tx {
	t.Helper()
	x, code := w.h.Begin()
	if code != api.OK {
		t.Fatalf("Begin: code %d", code)
	}
	return x
}

func commit(t *testing.T, x *sheaf.Tx) {
	t.Helper()
	if code := x.Commit(-1); code != api.OK {
		t.Fatalf("Commit of epoch %d: code %d", x.Epoch(), code)
	}
}

// write writes a text in a change, and holds what is told of its run against its blocks.
func (w *world) write(t *testing.T, x *sheaf.Tx, from, what, b []byte) text {
	t.Helper()
	r, code := extent.Write(x, w.s, from, what, b)
	if code != api.OK || r.Size != len(b) || r.Blocks() != blocksOf(len(b)) || r.At < redo.Blocks || r.At > w.d.Size()-r.Blocks() {
		t.Fatalf("Write of %d bytes: %v, code %d", len(b), r, code)
	}
	return text{bytes.Clone(from), bytes.Clone(what), bytes.Clone(b), r}
}

// put writes a text of its own key in a change of its own.
func (w *world) put(t *testing.T, size, seed int) text {
	t.Helper()
	x := w.begin(t)
	y := w.write(t, x, fromOf(seed), row(seed%40, uint32(seed)), row(size, uint32(seed)))
	commit(t, x)
	w.texts = append(w.texts, y)
	return y
}

// drop frees the first text in a change of its own.
func (w *world) drop(t *testing.T) {
	t.Helper()
	x := w.begin(t)
	extent.Free(x, w.texts[0].run)
	commit(t, x)
	w.texts = w.texts[1:]
}

// read is the bytes of a text from one up to another one.
func (w *world) read(y text, lo, hi int) ([]byte, api.Code) {
	return extent.Read(w.h, w.s, y.from, y.what, y.run, lo, hi)
}

func (w *world) all(y text) ([]byte, api.Code) {
	return extent.All(w.h, w.s, y.from, y.what, y.run)
}

// reads holds bytes of a text against what they are to be.
func (w *world) reads(t *testing.T, y text, lo, hi int) {
	t.Helper()
	if b, code := w.read(y, lo, hi); code != api.OK || !bytes.Equal(b, y.bytes[lo:hi]) {
		t.Errorf("ideal %t: bytes %d up to %d of %v: %d bytes, code %d", w.s.Ideal(), lo, hi, y.run, len(b), code)
	}
}

// refuses holds the code of a read against what it is to be; nothing is told beside it.
func (w *world) refuses(t *testing.T, y text, lo, hi int, want api.Code) {
	t.Helper()
	if b, code := w.read(y, lo, hi); code != want || b != nil {
		t.Errorf("ideal %t: bytes %d up to %d of %v: %d bytes, code %d; want code %d", w.s.Ideal(), lo, hi, y.run, len(b), code, want)
	}
}

// free is which blocks are free, by the sheaf's space.
func (w *world) free() []int {
	var l []int
	for at := range w.h.Space().Size() {
		if !w.h.Space().Taken(at) {
			l = append(l, at)
		}
	}
	return l
}

// span is the numbers of a run.
func span(at, n int) []int {
	var l []int
	for i := range n {
		l = append(l, at+i)
	}
	return l
}

// check holds all texts against what they are to be, and the blocks that are taken against theirs: no block is of two.
func (w *world) check(t *testing.T) {
	t.Helper()
	var own []int
	for _, y := range w.texts {
		if b, code := w.all(y); code != api.OK || !bytes.Equal(b, y.bytes) {
			t.Errorf("ideal %t: all of %v: %d bytes, code %d", w.s.Ideal(), y.run, len(b), code)
		}
		own = append(own, span(y.run.At, y.run.Blocks())...)
	}
	slices.Sort(own)
	if n := len(own); len(slices.Compact(own)) != n {
		t.Errorf("a block is of two texts: %v", own)
	}
	var free []int
	for at := redo.Blocks; at < w.d.Size(); at++ {
		if _, ok := slices.BinarySearch(own, at); !ok {
			free = append(free, at)
		}
	}
	if !slices.Equal(w.free(), free) {
		t.Errorf("free are %v; want %v", w.free(), free)
	}
	if w.s.Reused() || w.s.Forged() {
		t.Errorf("reused %t, forged %t", w.s.Reused(), w.s.Forged())
	}
}

// derived is the key of texts that Go's own library makes of a key, by what they are.
func derived(t *testing.T, from, what []byte) []byte {
	t.Helper()
	info := append([]byte{0, 0, 0, 5}, "chunk"...)
	info = append(binary.BigEndian.AppendUint32(info, uint32(len(what))), what...)
	key, err := hkdf.Key(sha256.New, from, nil, string(info), 32)
	if err != nil {
		t.Fatal(err)
	}
	return key
}

// nonceOf is a piece's nonce, byte by byte.
func nonceOf(i int) []byte { return binary.BigEndian.AppendUint32(make([]byte, 8), uint32(i)) }

// besideOf is what stands beside a piece, byte by byte.
func besideOf(what []byte, i int, last bool) []byte {
	b := append([]byte{0, 0, 0, 5}, "chunk"...)
	b = binary.BigEndian.AppendUint32(b, uint32(len(what)))
	b = append(b, what...)
	b = binary.BigEndian.AppendUint32(append(b, 0, 0, 0, 4), uint32(i))
	if last {
		return append(b, 0, 0, 0, 1, 1)
	}
	return append(b, 0, 0, 0, 1, 0)
}

// library is the blocks of a text as Go's own library seals them.
func library(t *testing.T, from, what, b []byte) [][]byte {
	t.Helper()
	c, err := aes.NewCipher(derived(t, from, what))
	if err != nil {
		t.Fatal(err)
	}
	g, err := cipher.NewGCM(c)
	if err != nil {
		t.Fatal(err)
	}
	var l [][]byte
	n := blocksOf(len(b))
	for i := range n {
		piece := b[496*i : min(496*i+496, len(b))]
		block := g.Seal(nil, nonceOf(i), piece, besideOf(what, i, i == n-1))
		l = append(l, append(block, make([]byte, 512-len(block))...))
	}
	return l
}

// touched is what the disk saw, behind so many touches.
func (w *world) touched(seen int) []api.Touch { return w.d.Seen()[seen:] }

func sameTouch(a, b api.Touch) bool {
	return a.Kind == b.Kind && a.At == b.At && bytes.Equal(a.Bytes, b.Bytes)
}

// TestExample: the chapter's example, a text of 600 bytes has two blocks; of its bytes 1 and 2 one is read.
func TestExample(t *testing.T) {
	for _, ideal := range kinds() {
		w := made(t, 40, ideal)
		y := w.put(t, 600, 1)
		if y.run.Blocks() != 2 || y.run != (extent.Run{At: 24, Size: 600}) {
			t.Errorf("%v, %d blocks", y.run, y.run.Blocks())
		}
		seen := len(w.d.Seen())
		w.reads(t, y, 1, 3)
		if l := w.touched(seen); !slices.EqualFunc(l, []api.Touch{{Kind: api.TouchRead, At: 24}}, sameTouch) {
			t.Errorf("the disk saw %v", l)
		}
		w.check(t)
	}
}
