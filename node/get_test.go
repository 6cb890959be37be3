package node_test

import (
	"bytes"
	"encoding/binary"
	"slices"
	"testing"

	"deedbox/api"
	"deedbox/node"
)

// refuses checks that no node is got of bytes, but a code.
func refuses(t *testing.T, name string, b []byte, want api.Code) {
	t.Helper()
	if n, code := node.Get(b); code != want || !zero(n) {
		t.Errorf("%s, %x: code %d, %+v; want code %d alone", name, b, code, n, want)
	}
}

// gets checks that a node is got of a page, and that the page is put of it.
func gets(t *testing.T, b []byte, want api.Node) {
	t.Helper()
	n, code := node.Get(b)
	if code != api.OK || !same(n, want) {
		t.Errorf("%x: code %d, %+v; want %+v", b, code, n, want)
		return
	}
	if c := put(t, n); !bytes.Equal(c, b) {
		t.Errorf("%x is put as %x", b, c)
	}
}

// TestThereAndBack: 18.4 and 18.7, what is put is got as what it was.
func TestThereAndBack(t *testing.T) {
	for _, n := range rights() {
		gets(t, put(t, n), n)
	}
}

// TestGetByHand: 18.4, pages byte by byte.
func TestGetByHand(t *testing.T) {
	gets(t, filled(nil), api.Node{})
	gets(t, filled([]byte{1}), api.Node{Leaf: true})
	gets(t, filled([]byte{1, 0, 1}), api.Node{Leaf: true, Pairs: []api.Pair{{}}})
	gets(t, filled([]byte{1, 0, 2, 0, 2, 'x', 'y', 2, 1, 'a', 'b', 'z'}), api.Node{Leaf: true, Pairs: []api.Pair{{Value: []byte("xy")}, {Key: []byte("ab"), Value: []byte("z")}}})
	gets(t, filled([]byte{0, 0, 1}), api.Node{Kids: []api.Kid{{}}})
	gets(t, filled([]byte{0, 0, 1, 2, 1, 2, 0, 0, 0, 3, 4, 5, 6, 7, 'a', 'b'}), api.Node{Kids: []api.Kid{{Key: []byte("ab"), Page: 258, Epoch: 0x0304050607}}})
	// Noughts within a key or a value are as good as any other bytes.
	gets(t, filled([]byte{1, 0, 2, 1, 2, 0, 0, 0, 2, 0}), api.Node{Leaf: true, Pairs: []api.Pair{{Key: []byte{0}, Value: []byte{0, 0}}, {Key: []byte{0, 0}}}})
}

// TestGetSize: 18.4, a page has 496 bytes, and that is told ahead of all else.
func TestGetSize(t *testing.T) {
	whole := slices.Concat(put(t, leafOf(160, 160, 160, 13)), make([]byte, 700))
	for length := range len(whole) {
		if length != 496 {
			refuses(t, "a page", whole[:length], api.ErrSize)
			refuses(t, "noughts", make([]byte, length), api.ErrSize)
			refuses(t, "no page at all", row(length, length), api.ErrSize)
		}
	}
	refuses(t, "nil", nil, api.ErrSize)
	gets(t, whole[:496], leafOf(160, 160, 160, 13))
}

// TestGetKind: 18.4, the first byte is 0 or 1; that is told ahead of all behind it.
func TestGetKind(t *testing.T) {
	for kind := 2; kind < 256; kind++ {
		for _, n := range []api.Node{{}, leafOf(10, 10), innerOf(20, 20)} {
			b := put(t, n)
			b[0] = byte(kind)
			refuses(t, "a kind", b, api.ErrForm)
			b[1] = 255
			refuses(t, "a kind, and too many", b, api.ErrForm)
		}
		b := row(kind, 496)
		b[0] = byte(kind)
		refuses(t, "a kind, and no node", b, api.ErrForm)
	}
}

// TestGetShort: 18.4, what does not stand there whole is too short, and that is told ahead of Check's codes.
func TestGetShort(t *testing.T) {
	for _, kind := range []byte{0, 1} {
		for _, count := range []uint16{248, 255, 256, 257, 1000, 65535} {
			b := filled([]byte{kind})
			binary.BigEndian.PutUint16(b[1:], count)
			refuses(t, "too many without bytes", b, api.ErrShort)
		}
	}
	// A pair takes two bytes at least, a kid eleven; 493 are there.
	refuses(t, "247 pairs", filled([]byte{1, 0, 247}), api.ErrShort)
	refuses(t, "246 pairs", filled([]byte{1, 0, 246}), api.ErrForm)
	refuses(t, "45 kids", filled([]byte{0, 0, 45}), api.ErrShort)
	refuses(t, "44 kids", filled([]byte{0, 0, 44}), api.ErrForm)
	pair := slices.Concat([]byte{1, 0, 2, 200, 200}, row(1, 400))
	refuses(t, "a pair behind one that is too long", filled(append(pair, 70, 20)), api.ErrShort)
	refuses(t, "a pair behind one that is too long, whole", filled(append(pair, 69, 20)), api.ErrSize)
	kid := slices.Concat([]byte{0, 0, 2, 255}, row(2, 10+255))
	refuses(t, "a kid behind one that is wrong", filled(append(kid, 217)), api.ErrShort)
	refuses(t, "a kid behind one that is wrong, whole", filled(append(kid, 216)), api.ErrSize)
}

// TestGetFull: 18.4, the last thing of a page with no byte left; one byte more in it, and it is not whole.
func TestGetFull(t *testing.T) {
	for _, n := range []api.Node{leafOf(160, 160, 160, 13), leafOf(164, 164, 10, 155), innerOf(75, 75, 75, 75, 75, 75, 43), innerOf(70, 70, 70, 70, 70, 70, 73)} {
		b := put(t, n)
		gets(t, b, n)
		for _, where := range []int{0, 1} {
			c := bytes.Clone(b)
			at := lastThing(n)
			if !n.Leaf && where == 1 {
				continue
			}
			for more := 1; more <= 255-int(b[at+where]); more++ {
				c[at+where] = b[at+where] + byte(more)
				refuses(t, "one byte more", c, api.ErrShort)
			}
		}
		c := bytes.Clone(b)
		c[2]++
		refuses(t, "one thing more", c, api.ErrShort)
	}
}

// lastThing is where the last pair or kid of a node stands in its page.
func lastThing(n api.Node) int {
	if n.Leaf {
		n.Pairs = n.Pairs[:len(n.Pairs)-1]
	} else {
		n.Kids = n.Kids[:len(n.Kids)-1]
	}
	return len(open(n))
}

// TestGetLeft: 18.4, each byte that is left is nought, whatever bit it has; that is told ahead of Check's codes.
func TestGetLeft(t *testing.T) {
	for _, n := range []api.Node{{}, {Leaf: true}, leafOf(50, 60), innerOf(20, 30, 40), leafOf(160, 160, 160, 12), innerOf(75, 75, 75, 75, 75, 75, 42)} {
		b := put(t, n)
		for at := len(open(n)); at < 496; at++ {
			for bit := range 8 {
				c := bytes.Clone(b)
				c[at] = 1 << bit
				refuses(t, "a byte left", c, api.ErrForm)
			}
		}
	}
	for _, w := range []wrong{
		{"a page", innerOf(20), api.ErrRange},
		{"a key", leafOf(20), api.ErrSize},
		{"a kid's key", innerOf(20), api.ErrSize},
	} {
		b := put(t, w.n)
		if w.code == api.ErrRange {
			b[4] = 255
		} else {
			b[3] = 65
		}
		refuses(t, w.name, b, w.code)
		b[495] = 1
		refuses(t, w.name+", and a byte left", b, api.ErrForm)
	}
}

// TestGetGreatEpochs: 18.4, epochs that no int holds, and those about 2^62, are out of range, at each place; what is short, or left, is told ahead of that.
func TestGetGreatEpochs(t *testing.T) {
	for _, epoch := range []uint64{1<<40 + 1, 1 << 41, 1<<62 - 1, 1 << 62, 1<<62 + 1, 1<<63 - 1, 1 << 63, 1<<63 + 1, 1<<63 + 7, 1<<64 - 2, 1<<64 - 1} {
		for place := range 3 {
			b := put(t, innerOf(20, 20, 20))
			binary.BigEndian.PutUint64(b[3+20*place+3:], epoch)
			refuses(t, "an epoch", b, api.ErrRange)
			left := bytes.Clone(b)
			left[100] = 1
			refuses(t, "an epoch, and a byte left", left, api.ErrForm)
			b[1] = 1
			refuses(t, "an epoch, and too many", b, api.ErrShort)
		}
	}
	b := put(t, innerOf(20))
	binary.BigEndian.PutUint64(b[6:], 1<<40)
	if n, code := node.Get(b); code != api.OK || n.Kids[0].Epoch != 1<<40 {
		t.Errorf("code %d, %+v", code, n)
	}
}

// TestGetWrong: 18.4, what stands there whole, but is wrong, has Check's code: all that a page can say.
func TestGetWrong(t *testing.T) {
	count := 0
	for _, w := range append(wrongs(), mixed()...) {
		if b := open(w.n); sayable(w.n) && len(b) <= 496 {
			refuses(t, w.name, filled(b), w.code)
			count++
		}
	}
	if count < 100 {
		t.Errorf("%d pages alone", count)
	}
}

// sayable tells whether a page can say what a node has: with things of one kind, in as many bytes as there are for it.
func sayable(n api.Node) bool {
	if n.Leaf && len(n.Kids) > 0 || !n.Leaf && len(n.Pairs) > 0 {
		return false
	}
	for _, p := range n.Pairs {
		if len(p.Key) > 255 || len(p.Value) > 255 {
			return false
		}
	}
	for _, k := range n.Kids {
		if len(k.Key) > 255 || k.Page < 0 || k.Page > 65535 || k.Epoch < 0 {
			return false
		}
	}
	return true
}

// TestGetLengths: 18.4, each length that a byte can say, of keys and values.
func TestGetLengths(t *testing.T) {
	for length := range 256 {
		for _, n := range []api.Node{
			{Leaf: true, Pairs: []api.Pair{{Key: row(1, length), Value: row(2, 5)}}},
			{Leaf: true, Pairs: []api.Pair{{Key: row(1, 5), Value: row(2, length)}}},
			{Kids: []api.Kid{{Key: row(1, length), Page: 5, Epoch: 6}}},
		} {
			if node.Check(n) == api.OK {
				gets(t, filled(open(n)), n)
			} else {
				refuses(t, "a length", filled(open(n)), api.ErrSize)
			}
		}
	}
}

// TestOneWayAlone: 18.4 and P8, with any one byte changed there is a code, or another node, that is put as just that page.
func TestOneWayAlone(t *testing.T) {
	for _, was := range []api.Node{{}, {Leaf: true}, leafOf(10, 20, 30), innerOf(20, 30, 40), nodesOf("", "a", "ab", "b")[0], nodesOf("", "a", "ab", "b")[1]} {
		b, whole := put(t, was), len(open(was))
		for at := range b {
			for value := range 256 {
				// Behind the node a few values stand for all.
				if at > whole && value > 1 && value < 254 {
					continue
				}
				c := bytes.Clone(b)
				c[at] = byte(value)
				n, code := node.Get(c)
				if code != api.OK {
					refuses(t, "a byte", c, code)
				} else if same(n, was) != bytes.Equal(b, c) || !bytes.Equal(put(t, n), c) {
					t.Errorf("byte %d is %d: %+v", at, value, n)
				}
			}
		}
	}
}
