package redo_test

import (
	"bytes"
	"crypto/aes"
	"crypto/cipher"
	"encoding/binary"
	"math"
	"reflect"
	"testing"

	"deedbox/api"
	"deedbox/disk"
	"deedbox/octet"
	"deedbox/power"
	"deedbox/redo"
	"deedbox/seal"
)

// row is so many bytes, of its own for each seed.
func row(n int, seed uint32) []byte {
	b := make([]byte, n)
	x := seed*2654435761 + 1
	for i := range b {
		x = x*1664525 + 1013904223
		b[i] = byte(x >> 24)
	}
	return b
}

func keyOf(seed uint32) []byte { return row(32, seed+5000) }

// kinds is a sealer of each kind, the ideal one first.
func kinds() []*seal.Sealer { return []*seal.Sealer{seal.New(true), seal.New(false)} }

// epochs is such as take one byte, some, and all eight.
func epochs() []int {
	return []int{0, 1, 5, 255, 256, 1<<31 - 1, 1<<32 - 1, 1 << 32, api.MaxNum, math.MaxInt}
}

// images is so many, of pages behind the log on a disk of 64 blocks, some of which come twice.
func images(n int, seed uint32) []api.Image {
	var l []api.Image
	for i := range n {
		l = append(l, api.Image{Page: 24 + (i*7+int(seed))%40, Block: row(512, 100*seed+uint32(i)+1)})
	}
	return l
}

func newDisk(t *testing.T, n int) (*disk.Disk, *power.Power) {
	t.Helper()
	p := power.New()
	d, code := disk.New(p, n)
	if code != api.OK {
		t.Fatalf("a disk of %d blocks: code %d", n, code)
	}
	return d, p
}

// full is bytes with noughts behind, up to a block.
func full(b []byte) []byte { return append(bytes.Clone(b), make([]byte, 512-len(b))...) }

// headOf is a head ahead of sealing, byte by byte.
func headOf(count int, pages ...int) []byte {
	b := binary.BigEndian.AppendUint16(nil, uint16(count))
	for _, p := range pages {
		b = binary.BigEndian.AppendUint16(b, uint16(p))
	}
	return b
}

// nonceOf is a head's nonce, byte by byte.
func nonceOf(epoch int) []byte {
	return append(binary.BigEndian.AppendUint64(nil, uint64(epoch)), 255, 255, 255, 255)
}

// besideOf is what stands beside a head, byte by byte.
func besideOf(epoch int) []byte {
	b := append([]byte{0, 0, 0, 3}, "log"...)
	return binary.BigEndian.AppendUint64(append(b, 0, 0, 0, 8), uint64(epoch))
}

func pagesOf(l []api.Image) []int {
	var pages []int
	for _, x := range l {
		pages = append(pages, x.Page)
	}
	return pages
}

// library seals as Go's own library does.
func library(t *testing.T, key []byte) cipher.AEAD {
	t.Helper()
	b, err := aes.NewCipher(key)
	if err != nil {
		t.Fatal(err)
	}
	g, err := cipher.NewGCM(b)
	if err != nil {
		t.Fatal(err)
	}
	return g
}

// put puts bytes to a block, and they are safe; no step.
func put(d *disk.Disk, at int, b []byte) { d.Poke(api.Poke{At: at, Kind: api.PokeBytes, Bytes: b}) }

// state is what all blocks would be read as.
func state(d *disk.Disk) [][]byte {
	var l [][]byte
	for at := range d.Size() {
		l = append(l, d.Look(at))
	}
	return l
}

func checkState(t *testing.T, d *disk.Disk, want [][]byte) {
	t.Helper()
	for at, b := range want {
		if !bytes.Equal(d.Look(at), b) {
			t.Errorf("block %d begins with %x; want %x", at, d.Look(at)[:8], b[:8])
		}
	}
}

// touches is writes of images to blocks, and a flush behind them.
func touches(l ...api.Image) []api.Touch {
	var out []api.Touch
	for _, x := range l {
		out = append(out, api.Touch{Kind: api.TouchWrite, At: x.Page, Bytes: x.Block})
	}
	return append(out, api.Touch{Kind: api.TouchFlush, At: -1})
}

// reads is reads of so many blocks, from block 0 on.
func reads(n int) []api.Touch {
	var out []api.Touch
	for at := range n {
		out = append(out, api.Touch{Kind: api.TouchRead, At: at})
	}
	return out
}

// checkSeen holds what was seen of a disk behind a first row of touches, and how many writes wait, against what is wanted.
func checkSeen(t *testing.T, d *disk.Disk, behind int, want []api.Touch, loose int) {
	t.Helper()
	seen := d.Seen()[behind:]
	if d.Loose() != loose {
		t.Errorf("%d writes wait; want %d", d.Loose(), loose)
	}
	if len(seen) != len(want) {
		t.Fatalf("%d touches; want %d", len(seen), len(want))
	}
	for i, x := range seen {
		if x.Kind != want[i].Kind || x.At != want[i].At || !bytes.Equal(x.Bytes, want[i].Bytes) {
			t.Errorf("touch %d: kind %d at %d; want kind %d at %d, and its bytes", i, x.Kind, x.At, want[i].Kind, want[i].At)
		}
	}
}

// tells holds all that a sealer tells of its book against what is wanted.
func tells(t *testing.T, s *seal.Sealer, sealed int, reused bool) {
	t.Helper()
	if s.Sealed() != sealed || s.Reused() != reused || s.Forged() {
		t.Errorf("ideal %t: %d sealed, reused %t, forged %t; want %d, %t", s.Ideal(), s.Sealed(), s.Reused(), s.Forged(), sealed, reused)
	}
}

// notes writes images that can be noted.
func notes(t *testing.T, d *disk.Disk, s *seal.Sealer, key []byte, epoch int, l []api.Image) {
	t.Helper()
	if code := redo.Write(d, s, key, epoch, l); code != api.OK {
		t.Fatalf("ideal %t: Write of %d images of epoch %d: code %d", s.Ideal(), len(l), epoch, code)
	}
}

func sameImages(a, b []api.Image) bool {
	return len(a) == len(b) && (len(a) == 0 || reflect.DeepEqual(a, b))
}

// has reads images that are noted, and holds them against what is wanted.
func has(t *testing.T, d *disk.Disk, s *seal.Sealer, key []byte, epoch int, want []api.Image) {
	t.Helper()
	got, code := redo.Read(d, s, key, epoch, len(want))
	if code != api.OK || !sameImages(got, want) {
		t.Errorf("ideal %t: Read of %d images of epoch %d: %d images of pages %v, code %d; want pages %v", s.Ideal(), len(want), epoch, len(got), pagesOf(got), code, pagesOf(want))
	}
}

// refuses reads images that can't be read: a code, and none of them.
func refuses(t *testing.T, d *disk.Disk, s *seal.Sealer, key []byte, epoch, n int, want api.Code) {
	t.Helper()
	if got, code := redo.Read(d, s, key, epoch, n); code != want || len(got) != 0 {
		t.Errorf("Read of %d images of epoch %d under a key of %d bytes: %d images, code %d; want code %d", n, epoch, len(key), len(got), code, want)
	}
}

// TestConstants: 16.1, 24 blocks, of which the head takes one.
func TestConstants(t *testing.T) {
	if redo.Blocks != 24 || redo.Most != 23 {
		t.Errorf("%d, %d", redo.Blocks, redo.Most)
	}
}

// TestHeadsMakeUp: 16.1, the nonce and what stands beside, as the tests have them, are what seal.Nonce and octet.Pack make of the chapter's words.
func TestHeadsMakeUp(t *testing.T) {
	for _, epoch := range epochs() {
		if got, want := nonceOf(epoch), seal.Nonce(uint64(epoch), 1<<32-1); !bytes.Equal(got, want) {
			t.Errorf("epoch %d: %x; want %x", epoch, got, want)
		}
		if got, want := besideOf(epoch), octet.Pack([]byte("log"), octet.Put(uint64(epoch), 8)); !bytes.Equal(got, want) {
			t.Errorf("epoch %d: %x; want %x", epoch, got, want)
		}
	}
}

// TestExample: the chapter's example, two pages of epoch 5: read as epoch 6 they are not right.
func TestExample(t *testing.T) {
	for _, s := range kinds() {
		d, _ := newDisk(t, 64)
		l := images(2, 1)
		notes(t, d, s, keyOf(1), 5, l)
		refuses(t, d, s, keyOf(1), 6, 2, api.ErrIntegrity)
		has(t, d, s, keyOf(1), 5, l)
	}
}
