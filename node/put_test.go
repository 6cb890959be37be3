package node_test

import (
	"bytes"
	"encoding/binary"
	"testing"

	"deedbox/api"
	"deedbox/node"
)

// open is the chapter's words of a node as bytes, whatever is wrong with it, without noughts behind.
func open(n api.Node) []byte {
	b := []byte{0}
	if n.Leaf {
		b[0] = 1
	}
	b = binary.BigEndian.AppendUint16(b, uint16(len(n.Pairs)+len(n.Kids)))
	for _, p := range n.Pairs {
		b = append(b, byte(len(p.Key)), byte(len(p.Value)))
		b = append(b, p.Key...)
		b = append(b, p.Value...)
	}
	for _, k := range n.Kids {
		b = append(b, byte(len(k.Key)))
		b = binary.BigEndian.AppendUint16(b, uint16(k.Page))
		b = binary.BigEndian.AppendUint64(b, uint64(k.Epoch))
		b = append(b, k.Key...)
	}
	return b
}

// filled is bytes with noughts behind them, up to a page.
func filled(b []byte) []byte { return append(bytes.Clone(b), make([]byte, 496-len(b))...) }

// put is a node as a page; there must be one.
func put(t *testing.T, n api.Node) []byte {
	t.Helper()
	b, code := node.Put(n)
	if code != api.OK || len(b) != 496 {
		t.Fatalf("%+v is not put: code %d, %d bytes", n, code, len(b))
	}
	return b
}

// TestPutByHand: 18.3, byte by byte.
func TestPutByHand(t *testing.T) {
	for _, c := range []struct {
		name string
		n    api.Node
		want []byte
	}{
		{"nothing", api.Node{}, nil},
		{"a leaf without pairs", api.Node{Leaf: true}, []byte{1}},
		{"a pair without bytes", api.Node{Leaf: true, Pairs: []api.Pair{{}}}, []byte{1, 0, 1}},
		{"pairs", api.Node{Leaf: true, Pairs: []api.Pair{{Key: []byte("a"), Value: []byte("xyz")}, {Key: []byte("bc")}, {Key: []byte{255}, Value: []byte{0}}}},
			[]byte{1, 0, 3, 1, 3, 'a', 'x', 'y', 'z', 2, 0, 'b', 'c', 1, 1, 255, 0}},
		{"a kid without bytes", api.Node{Kids: []api.Kid{{}}}, []byte{0, 0, 1}},
		{"kids", api.Node{Kids: []api.Kid{{Page: 4095, Epoch: 1 << 40}, {Key: []byte("bc"), Page: 258, Epoch: 0x0123456789}, {Key: []byte("c"), Page: 7, Epoch: 8}}},
			[]byte{0, 0, 3, 0, 15, 255, 0, 0, 1, 0, 0, 0, 0, 0, 2, 1, 2, 0, 0, 0, 1, 0x23, 0x45, 0x67, 0x89, 'b', 'c', 1, 0, 7, 0, 0, 0, 0, 0, 0, 0, 8, 'c'}},
	} {
		if b, code := node.Put(c.n); code != api.OK || !bytes.Equal(b, filled(c.want)) {
			t.Errorf("%s: code %d, %v; want %v and noughts", c.name, code, b, c.want)
		}
	}
}

// TestPut: 18.3, against the chapter's words.
func TestPut(t *testing.T) {
	for _, n := range rights() {
		if b := put(t, n); !bytes.Equal(b, filled(open(n))) {
			t.Errorf("%+v: %x", n, b)
		}
	}
}

// TestPutLength: 18.1 and 18.3, Size is how long what stands in a page is.
func TestPutLength(t *testing.T) {
	for _, n := range rights() {
		if got := node.Size(n); got != len(open(n)) {
			t.Errorf("%+v: %d, want %d", n, got, len(open(n)))
		}
	}
}

// TestPutWrong: 18.3, of a node with something wrong there is Check's code alone.
func TestPutWrong(t *testing.T) {
	for _, w := range append(wrongs(), mixed()...) {
		if b, code := node.Put(w.n); code != w.code || len(b) != 0 {
			t.Errorf("%s: code %d, %d bytes; want code %d", w.name, code, len(b), w.code)
		}
	}
}

// TestUnlikeNodes: P8, no two unlike nodes are the same page.
func TestUnlikeNodes(t *testing.T) {
	seen := map[string]api.Node{}
	for _, n := range rights() {
		b := string(put(t, n))
		if was, ok := seen[b]; ok && !same(was, n) {
			t.Errorf("%+v and %+v", was, n)
		}
		seen[b] = n
	}
}
