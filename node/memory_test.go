package node_test

import (
	"bytes"
	"testing"

	"deedbox/api"
	"deedbox/node"
)

// scribble writes over bytes, and over what lies behind their length.
func scribble(b []byte) {
	b = b[:cap(b)]
	for i := range b {
		b[i] += 13
	}
}

// scribbleNode writes over all that a node has, and over what lies behind its lists' lengths.
func scribbleNode(n api.Node) {
	for i, p := range n.Pairs[:cap(n.Pairs)] {
		scribble(p.Key)
		scribble(p.Value)
		n.Pairs[:cap(n.Pairs)][i] = api.Pair{Key: []byte("over")}
	}
	for i, k := range n.Kids[:cap(n.Kids)] {
		scribble(k.Key)
		n.Kids[:cap(n.Kids)][i] = api.Kid{Page: -7}
	}
}

// hands hands bytes and nodes in with others behind them in their memory, and knows what all of that was.
type hands struct {
	now, was           [][]byte
	nodesNow, nodesWas []api.Node
}

func (h *hands) in(b []byte) []byte {
	whole := append(bytes.Clone(b), row(len(h.now), 70)...)
	h.now, h.was = append(h.now, whole), append(h.was, bytes.Clone(whole))
	return whole[:len(b)]
}

// node hands a node in: behind its pairs and kids there are more, with all that can be wrong.
func (h *hands) node(n api.Node) api.Node {
	whole, was := api.Node{Leaf: n.Leaf}, api.Node{Leaf: n.Leaf}
	for _, p := range append(append([]api.Pair{}, n.Pairs...), long(0), wide(0), api.Pair{}) {
		whole.Pairs = append(whole.Pairs, api.Pair{Key: h.in(p.Key), Value: h.in(p.Value)})
	}
	for _, k := range append(append([]api.Kid{}, n.Kids...), strange(0), tall(0), api.Kid{}) {
		whole.Kids = append(whole.Kids, api.Kid{Key: h.in(k.Key), Page: k.Page, Epoch: k.Epoch})
	}
	was.Pairs, was.Kids = append(was.Pairs, whole.Pairs...), append(was.Kids, whole.Kids...)
	h.nodesNow, h.nodesWas = append(h.nodesNow, whole), append(h.nodesWas, was)
	return api.Node{Leaf: n.Leaf, Pairs: whole.Pairs[:len(n.Pairs)], Kids: whole.Kids[:len(n.Kids)]}
}

func (h *hands) stay(t *testing.T) {
	t.Helper()
	for i := range h.now {
		if !bytes.Equal(h.now[i], h.was[i]) {
			t.Errorf("bytes %d were changed", i)
		}
	}
	for i := range h.nodesNow {
		if !same(h.nodesNow[i], h.nodesWas[i]) {
			t.Errorf("node %d was changed", i)
		}
	}
}

// over writes over all that was handed in.
func (h *hands) over() {
	for _, n := range h.nodesNow {
		scribbleNode(n)
	}
	for _, b := range h.now {
		scribble(b)
	}
}

// fewNodes is nodes of all kinds, right ones, full ones and wrong ones.
func fewNodes() []api.Node {
	l := append(rights()[:6], leafOf(10, 20, 30), innerOf(20, 30, 40), leafOf(160, 160, 160, 14), innerOf(75, 75, 75, 75, 75, 75, 75))
	return append(l, nodesOf("", "a", "ab", "\xff")...)
}

// TestHandedInStays: R3, what is handed in is not changed, and what lies behind it is neither read nor changed.
func TestHandedInStays(t *testing.T) {
	for _, n := range fewNodes() {
		h := &hands{}
		m := h.node(n)
		if node.Size(m) != node.Size(n) || node.Check(m) != node.Check(n) {
			t.Errorf("%+v: %d, code %d", n, node.Size(m), node.Check(m))
		}
		b, code := node.Put(m)
		if c, as := node.Put(n); code != as || !bytes.Equal(b, c) {
			t.Errorf("%+v: code %d, %x", n, code, b)
		}
		finds(t, m, m, h.in([]byte("aa")))
		splits(t, m, placeToCut(n))
		if code == api.OK {
			gets(t, h.in(b), n)
		}
		h.stay(t)
	}
}

// TestPutIsNew: R3, a page shares nothing with its node, or with another page.
func TestPutIsNew(t *testing.T) {
	for _, n := range fewNodes() {
		if node.Check(n) != api.OK {
			continue
		}
		h, want := &hands{}, filled(open(n))
		m := h.node(n)
		a, b := put(t, m), put(t, m)
		scribble(b)
		h.stay(t)
		h.over()
		if !bytes.Equal(a, want) {
			t.Errorf("%x; want %x", a, want)
		}
	}
}

// TestGetIsNew: R3, a node shares nothing with its page, or with another node; no two lists of it share any.
func TestGetIsNew(t *testing.T) {
	for _, n := range fewNodes() {
		if node.Check(n) != api.OK {
			continue
		}
		h := &hands{}
		b := h.in(put(t, n))
		a, _ := node.Get(b)
		c, _ := node.Get(b)
		scribbleNode(c)
		h.stay(t)
		h.over()
		if !same(a, n) {
			t.Errorf("%+v; want %+v", a, n)
		}
		apart(t, a)
	}
}

// apart checks that each list of bytes of a node is alone in its memory.
func apart(t *testing.T, n api.Node) {
	t.Helper()
	var l [][]byte
	for _, p := range n.Pairs {
		l = append(l, p.Key, p.Value)
	}
	for _, k := range n.Kids {
		l = append(l, k.Key)
	}
	var was [][]byte
	for _, b := range l {
		was = append(was, bytes.Clone(b))
	}
	for i := range l {
		scribble(l[i])
		for j := i + 1; j < len(l); j++ {
			if !bytes.Equal(l[j], was[j]) {
				t.Errorf("lists %d and %d share their memory", i, j)
			}
		}
	}
}

// TestSplitIsNew: R3, the parts share nothing with the node, or with each other.
func TestSplitIsNew(t *testing.T) {
	for _, n := range fewNodes() {
		h := &hands{}
		m := h.node(n)
		first, rest, ok := node.Split(m)
		if !ok {
			continue
		}
		wantFirst, wantRest := cut(n, count(first))
		other, behind, _ := node.Split(m)
		scribbleNode(other)
		scribbleNode(behind)
		h.stay(t)
		h.over()
		if !same(first, wantFirst) || !same(rest, wantRest) {
			t.Errorf("%+v: %+v and %+v", n, first, rest)
		}
		scribbleNode(first)
		if !same(rest, wantRest) {
			t.Errorf("%+v: parts share their memory", n)
		}
		apart(t, rest)
	}
}

// TestAnythingEnds: whatever is handed in, no call panics.
func TestAnythingEnds(t *testing.T) {
	for _, w := range append(wrongs(), mixed()...) {
		node.Size(w.n)
		for _, key := range [][]byte{nil, {}, {5}, keyOf(3), row(1, 300)} {
			node.Find(w.n, key)
			node.Way(w.n, key)
		}
		node.Split(w.n)
	}
	for seed := range 3000 {
		node.Get(row(seed, 496))
		b := row(seed, 496)
		b[0], b[1] = byte(seed%2), 0
		node.Get(b)
	}
}
