package node_test

import (
	"bytes"
	"math/rand/v2"
	"slices"
	"testing"

	"deedbox/api"
	"deedbox/node"
)

// said is the chapter's words of Check, rule by rule.
func said(n api.Node) api.Code {
	if len(n.Kids) > 0 && n.Leaf || len(n.Pairs) > 0 && !n.Leaf {
		return api.ErrForm
	}
	var keys []string
	for _, p := range n.Pairs {
		if len(p.Key) > 64 || len(p.Value) > 160 {
			return api.ErrSize
		}
		keys = append(keys, string(p.Key))
	}
	for _, k := range n.Kids {
		switch {
		case len(k.Key) > 64:
			return api.ErrSize
		case k.Page < 0 || k.Page > 4095 || k.Epoch < 0 || k.Epoch > 1<<40:
			return api.ErrRange
		}
		keys = append(keys, string(k.Key))
	}
	if rising := slices.Compact(slices.Sorted(slices.Values(keys))); !slices.Equal(rising, keys) {
		return api.ErrForm
	}
	if len(open(n)) > 496 {
		return api.ErrFull
	}
	return api.OK
}

// cursor goes through a page; it is behind the end, once something was not there.
type cursor struct {
	b     []byte
	short bool
}

func (c *cursor) next(n int) []byte {
	if c.short || n > len(c.b) {
		c.short = true
		return nil
	}
	b := c.b[:n]
	c.b = c.b[n:]
	return b
}

func (c *cursor) number(size int) int {
	n := uint64(0)
	for _, x := range c.next(size) {
		n = 256*n + uint64(x)
	}
	return int(min(n, 1<<62))
}

// readOf is the chapter's words of Get.
func readOf(b []byte) (api.Node, api.Code) {
	if len(b) != 496 {
		return api.Node{}, api.ErrSize
	}
	if b[0] > 1 {
		return api.Node{}, api.ErrForm
	}
	n, c := api.Node{Leaf: b[0] == 1}, cursor{b: b[1:]}
	for range c.number(2) {
		if c.short {
			break
		}
		if n.Leaf {
			key, value := c.number(1), c.number(1)
			n.Pairs = append(n.Pairs, api.Pair{Key: c.next(key), Value: c.next(value)})
			continue
		}
		key, page, epoch := c.number(1), c.number(2), c.number(8)
		n.Kids = append(n.Kids, api.Kid{Key: c.next(key), Page: page, Epoch: epoch})
	}
	if c.short {
		return api.Node{}, api.ErrShort
	}
	if !bytes.Equal(c.b, make([]byte, len(c.b))) {
		return api.Node{}, api.ErrForm
	}
	if code := said(n); code != api.OK {
		return api.Node{}, code
	}
	return n, api.OK
}

// chooser makes nodes and pages by a row of numbers that is the same at each run.
type chooser struct{ *rand.Rand }

// length is a length up to a greatest one, often just there, and now and then beyond it.
func (c chooser) length(most int) int {
	switch c.IntN(40) {
	case 0:
		return most + 1
	case 1, 2:
		return most
	case 3:
		return 0
	case 4, 5:
		return c.IntN(most + 1)
	}
	return c.IntN(12)
}

// bytes is so many bytes of a few kinds, so that keys are often alike, or begin alike.
func (c chooser) bytes(length int) []byte {
	b := make([]byte, length)
	for i := range b {
		b[i] = [...]byte{0, 1, 'a', 'b', 'c', 'd', 0x7f, 0x80, 0xff}[c.IntN(9)]
	}
	return b
}

// number is a number up to a greatest one, now and then beyond it.
func (c chooser) number(most int) int {
	switch c.IntN(60) {
	case 0:
		return most + 1
	case 1:
		return most
	case 2:
		return 0
	}
	return c.IntN(most + 1)
}

// node is a node, most often with keys that rise.
func (c chooser) node() api.Node {
	n := api.Node{Leaf: c.IntN(2) == 0}
	for range c.IntN(1 + c.IntN(40)) {
		if n.Leaf {
			n.Pairs = append(n.Pairs, api.Pair{Key: c.bytes(c.length(64)), Value: c.bytes(c.length(160))})
		} else {
			n.Kids = append(n.Kids, api.Kid{Key: c.bytes(c.length(64)), Page: c.number(4095), Epoch: c.number(1 << 40)})
		}
	}
	if c.IntN(10) > 0 {
		n = risen(n)
	}
	if c.IntN(50) == 0 {
		n.Leaf = !n.Leaf
	}
	return n
}

// risen is a node with its keys in their order, each once.
func risen(n api.Node) api.Node {
	slices.SortFunc(n.Pairs, func(a, b api.Pair) int { return bytes.Compare(a.Key, b.Key) })
	n.Pairs = slices.CompactFunc(n.Pairs, func(a, b api.Pair) bool { return bytes.Equal(a.Key, b.Key) })
	slices.SortFunc(n.Kids, func(a, b api.Kid) int { return bytes.Compare(a.Key, b.Key) })
	n.Kids = slices.CompactFunc(n.Kids, func(a, b api.Kid) bool { return bytes.Equal(a.Key, b.Key) })
	return n
}

// page is bytes of a node that may be wrong, with a few of them changed, or none.
func (c chooser) page() []byte {
	b := open(c.node())
	b = append(b, make([]byte, max(496-len(b), 0))...)[:496]
	for range c.IntN(3) {
		b[c.IntN(1+c.IntN(496))] = c.bytes(1)[0]
	}
	return b
}

// TestNodesByTheWords: 18.1 to 18.7, nodes of all kinds, against the chapter's words.
func TestNodesByTheWords(t *testing.T) {
	c, codes := chooser{rand.New(rand.NewPCG(18, 1))}, map[api.Code]int{}
	for range 40000 {
		n := c.node()
		want := said(n)
		codes[want]++
		if code := node.Check(n); code != want || node.Size(n) != len(open(n)) {
			t.Fatalf("%+v: code %d, %d bytes; want %d, %d", n, code, node.Size(n), want, len(open(n)))
		}
		b, code := node.Put(n)
		if code != want || code != api.OK && len(b) > 0 {
			t.Fatalf("%+v: code %d, %d bytes; want code %d", n, code, len(b), want)
		}
		if code == api.OK && !bytes.Equal(b, filled(open(n))) {
			t.Fatalf("%+v: %x", n, b)
		}
		if code == api.OK {
			gets(t, b, n)
		}
		if code == api.OK || code == api.ErrFull {
			splits(t, n, placeToCut(n))
			finds(t, n, n, c.bytes(c.length(64)))
		}
	}
	for _, code := range []api.Code{api.OK, api.ErrForm, api.ErrSize, api.ErrRange, api.ErrFull} {
		if codes[code] < 100 {
			t.Errorf("code %d came %d times alone", code, codes[code])
		}
	}
}

// TestPagesByTheWords: 18.4, pages of all kinds, against the chapter's words; what is got is put as just that page.
func TestPagesByTheWords(t *testing.T) {
	c, codes := chooser{rand.New(rand.NewPCG(18, 4))}, map[api.Code]int{}
	for range 40000 {
		b := c.page()
		want, as := readOf(b)
		codes[as]++
		if as != api.OK {
			refuses(t, "a page", b, as)
			continue
		}
		gets(t, b, want)
	}
	for _, code := range []api.Code{api.OK, api.ErrForm, api.ErrSize, api.ErrShort, api.ErrRange} {
		if codes[code] < 100 {
			t.Errorf("code %d came %d times alone", code, codes[code])
		}
	}
}

// TestOneMoreByChance: 18.7, nodes that have room get one thing more, one behind the other; one that has no room then is parted, and goes on as its first part.
func TestOneMoreByChance(t *testing.T) {
	c, parted := chooser{rand.New(rand.NewPCG(18, 7))}, 0
	for _, leaf := range []bool{false, true} {
		n := api.Node{Leaf: leaf}
		for range 20000 {
			m := api.Node{Leaf: leaf, Pairs: slices.Clone(n.Pairs), Kids: slices.Clone(n.Kids)}
			if key := c.bytes(min(c.length(64), 64)); leaf {
				m.Pairs = append(m.Pairs, api.Pair{Key: key, Value: c.bytes(min(c.length(160), 160))})
			} else {
				m.Kids = append(m.Kids, api.Kid{Key: key})
			}
			m = risen(m)
			partsHaveRoom(t, m)
			n = m
			if !hasRoom(m) {
				n, _, _ = node.Split(m)
				parted++
			}
		}
	}
	if parted < 1000 {
		t.Errorf("parted %d times alone", parted)
	}
}
