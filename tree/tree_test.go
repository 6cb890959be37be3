package tree_test

import (
	"bytes"
	"maps"
	"slices"
	"strings"
	"testing"

	"deedbox/anchor"
	"deedbox/api"
	"deedbox/cell"
	"deedbox/disk"
	"deedbox/node"
	"deedbox/power"
	"deedbox/redo"
	"deedbox/seal"
	"deedbox/sheaf"
	"deedbox/tree"
)

// row is so many bytes, of its own for each seed.
func row(n int, seed uint32) []byte {
	b := make([]byte, n)
	x := seed*2654435761 + 1
	for i := range b {
		x = x*1664525 + 1013904223
		b[i] = byte(x >> 24)
	}
	return b
}

// keyOf is a short key of its own for each number, rising with it.
func keyOf(i int) []byte { return []byte{'k', byte(i >> 8), byte(i)} }

// longOf is a key of as many bytes as may be, rising with the number: just the last bytes differ.
func longOf(i int) []byte { return append(bytes.Repeat([]byte{'l'}, 62), byte(i>>8), byte(i)) }

// wideOf is a value of as many bytes as may be.
func wideOf(i int) []byte { return row(160, uint32(i)) }

// store is a tree on a sheaf on devices of its own, and what it is to have.
type store struct {
	p    *power.Power
	d    *disk.Disk
	c    *cell.Cell
	s    *seal.Sealer
	h    *sheaf.Sheaf
	x    tree.Tree
	want map[string]string
}

// made is an empty tree on a disk of so many blocks.
func made(t *testing.T, size int, ideal bool) *store {
	t.Helper()
	p := power.New()
	d, code := disk.New(p, size)
	if code != api.OK {
		t.Fatalf("a disk of %d blocks: code %d", size, code)
	}
	c, code := cell.New(p)
	if code != api.OK {
		t.Fatalf("a cell: code %d", code)
	}
	s := &store{p: p, d: d, c: c, s: seal.New(ideal), x: tree.Tree{Root: -1}, want: map[string]string{}}
	k, code := anchor.Open(c)
	if code != api.OK {
		t.Fatalf("a keeper: code %d", code)
	}
	if code := sheaf.Format(k, row(32, 1)); code != api.OK {
		t.Fatalf("Format: code %d", code)
	}
	s.open(t)
	return s
}

// open opens cell and sheaf anew, and takes the tree to be where the anchor says.
func (s *store) open(t *testing.T) {
	t.Helper()
	k, code := anchor.Open(s.c)
	if code != api.OK {
		t.Fatalf("a keeper: code %d", code)
	}
	if s.h, code = sheaf.Open(s.d, s.s, k); code != api.OK {
		t.Fatalf("Open: code %d", code)
	}
	a, ok := k.Last()
	if !ok {
		t.Fatal("no anchor counts")
	}
	s.x = tree.Tree{Root: a.Root, Epoch: a.RootEpoch}
	l, code := s.x.Blocks(s.h)
	if code != api.OK {
		t.Fatalf("Blocks: code %d", code)
	}
	for _, at := range l {
		if code := s.h.Space().Mark(at, 1); code != api.OK {
			t.Fatalf("block %d: code %d", at, code)
		}
	}
}

func (s *store) begin(t *testing.T) *sheaf.Tx {
	t.Helper()
	x, code := s.h.Begin()
	if code != api.OK {
		t.Fatalf("Begin: code %d", code)
	}
	return x
}

// commit has a tree count, with what it is to have.
func (s *store) commit(t *testing.T, x *sheaf.Tx, now tree.Tree, want map[string]string) {
	t.Helper()
	if code := x.Commit(now.Root); code != api.OK {
		t.Fatalf("Commit of %d pages: code %d", x.Dirty(), code)
	}
	s.x, s.want = now, want
}

// with is what is to be had with one pair more; without, with one less.
func with(want map[string]string, key, value []byte) map[string]string {
	now := maps.Clone(want)
	now[string(key)] = string(value)
	return now
}

func without(want map[string]string, key []byte) map[string]string {
	now := maps.Clone(want)
	delete(now, string(key))
	return now
}

// put puts a pair, in a change of its own.
func (s *store) put(t *testing.T, key, value []byte) {
	t.Helper()
	x := s.begin(t)
	now, code := s.x.Put(x, key, value)
	if code != api.OK {
		t.Fatalf("Put of %q: code %d", key, code)
	}
	if now.Root < redo.Blocks || now.Epoch != x.Epoch() {
		t.Errorf("Put of %q: the root is in block %d, of epoch %d; the change's is %d", key, now.Root, now.Epoch, x.Epoch())
	}
	s.commit(t, x, now, with(s.want, key, value))
}

// drop deletes a key's pair, in a change of its own.
func (s *store) drop(t *testing.T, key []byte) {
	t.Helper()
	x := s.begin(t)
	now, ok, code := s.x.Delete(x, key)
	if code != api.OK || !ok {
		t.Fatalf("Delete of %q: %t, code %d", key, ok, code)
	}
	if now.Root >= 0 && now.Epoch != x.Epoch() {
		t.Errorf("Delete of %q: the root is of epoch %d; the change's is %d", key, now.Epoch, x.Epoch())
	}
	s.commit(t, x, now, without(s.want, key))
}

// fill puts a pair of each number below n, by rising numbers.
func (s *store) fill(t *testing.T, n int, key, value func(int) []byte) {
	t.Helper()
	for i := range n {
		s.put(t, key(i), value(i))
	}
}

// check holds the tree against what it is to have, and the blocks that are taken against its own.
func (s *store) check(t *testing.T) {
	t.Helper()
	l := checkTree(t, s.h, s.x, s.want)
	var taken []int
	for at := redo.Blocks; at < s.d.Size(); at++ {
		if s.h.Space().Taken(at) {
			taken = append(taken, at)
		}
	}
	if slices.Sort(l); !slices.Equal(l, taken) {
		t.Errorf("the tree has the blocks %v; taken are %v", l, taken)
	}
}

// pairsOf is what is to be had as pairs, by rising keys.
func pairsOf(want map[string]string) []api.Pair {
	var l []api.Pair
	for _, key := range slices.Sorted(maps.Keys(want)) {
		l = append(l, api.Pair{Key: []byte(key), Value: []byte(want[key])})
	}
	return l
}

func samePairs(a, b []api.Pair) bool {
	return slices.EqualFunc(a, b, func(a, b api.Pair) bool {
		return bytes.Equal(a.Key, b.Key) && bytes.Equal(a.Value, b.Value)
	})
}

// seen is what a walk by hand finds.
type seen struct {
	pairs  []api.Pair
	blocks []int
	height int
}

// look walks through pages, and holds each against the chapter's words: nodes with things in them, keys that rise, all between those of the nodes above, leaves all as deep. The first one of a node's kids has no key, as it needs none.
func look(t *testing.T, p tree.Pages, at api.Kid, low, high []byte, deep int, l *seen) {
	t.Helper()
	b, code := p.Load(at.Page, at.Epoch)
	if code != api.OK {
		t.Fatalf("page %d of epoch %d: code %d", at.Page, at.Epoch, code)
	}
	n, code := node.Get(b)
	if code != api.OK || len(n.Pairs)+len(n.Kids) == 0 {
		t.Fatalf("page %d is no node with things: code %d", at.Page, code)
	}
	l.blocks = append(l.blocks, at.Page)
	if n.Leaf {
		if l.height == 0 {
			l.height = deep
		}
		if l.height != deep {
			t.Errorf("leaf %d is %d deep; another one is %d", at.Page, deep, l.height)
		}
	}
	for _, p := range n.Pairs {
		if bytes.Compare(p.Key, low) < 0 || high != nil && bytes.Compare(p.Key, high) >= 0 {
			t.Errorf("leaf %d has %q, between %q and %q", at.Page, p.Key, low, high)
		}
		l.pairs = append(l.pairs, p)
	}
	for i, k := range n.Kids {
		from, to := k.Key, high
		if i == 0 {
			if from = low; len(k.Key) > 0 {
				t.Errorf("node %d has a first kid from %q on", at.Page, k.Key)
			}
		}
		if i+1 < len(n.Kids) {
			to = n.Kids[i+1].Key
		}
		if bytes.Compare(from, low) < 0 || to != nil && bytes.Compare(from, to) >= 0 {
			t.Errorf("node %d has a kid from %q on, between %q and %q", at.Page, from, low, to)
		}
		look(t, p, k, from, to, deep+1, l)
	}
}

// looked is what a walk by hand through a tree finds.
func looked(t *testing.T, p tree.Pages, x tree.Tree) seen {
	t.Helper()
	var l seen
	if x.Root >= 0 {
		look(t, p, api.Kid{Page: x.Root, Epoch: x.Epoch}, nil, nil, 1, &l)
	}
	return l
}

// checkTree holds a tree against what it is to have, by hand and by its calls: its blocks.
func checkTree(t *testing.T, p tree.Pages, x tree.Tree, want map[string]string) []int {
	t.Helper()
	l, pairs := looked(t, p, x), pairsOf(want)
	if !samePairs(l.pairs, pairs) {
		t.Errorf("by hand there are %d pairs; want %d", len(l.pairs), len(pairs))
	}
	if (x.Root < 0) != (len(want) == 0) {
		t.Errorf("the root is %d of %d pairs", x.Root, len(want))
	}
	if got, code := x.Scan(p, nil, len(want)+1); code != api.OK || !samePairs(got, pairs) {
		t.Errorf("Scan: %d pairs, code %d; want %d", len(got), code, len(pairs))
	}
	if n, code := x.Height(p); code != api.OK || n != l.height || n > tree.MaxHeight {
		t.Errorf("Height: %d, code %d; want %d", n, code, l.height)
	}
	got, code := x.Blocks(p)
	if code != api.OK {
		t.Errorf("Blocks: code %d", code)
	}
	slices.Sort(got)
	slices.Sort(l.blocks)
	if !slices.Equal(got, l.blocks) || len(slices.Compact(slices.Clone(got))) != len(got) {
		t.Errorf("Blocks: %v; want %v", got, l.blocks)
	}
	return got
}

// checkGets holds Get of each key that there is, and of keys beside it, against what the tree is to have.
func checkGets(t *testing.T, p tree.Pages, x tree.Tree, want map[string]string) {
	t.Helper()
	for key := range want {
		checkGet(t, p, x, want, []byte(key))
		checkGet(t, p, x, want, []byte(key+"\x00"))
		checkGet(t, p, x, want, []byte(strings.TrimRight(key, key[len(key)-min(len(key), 1):])))
	}
	checkGet(t, p, x, want, nil)
	checkGet(t, p, x, want, bytes.Repeat([]byte{255}, 64))
}

func checkGet(t *testing.T, p tree.Pages, x tree.Tree, want map[string]string, key []byte) {
	t.Helper()
	value, there := want[string(key)]
	got, ok, code := x.Get(p, key)
	if code != api.OK || ok != there || string(got) != value {
		t.Errorf("Get of %q: %q, %t, code %d; want %q, %t", key, got, ok, code, value, there)
	}
}

// kinds is both kinds of sealers, the ideal one first.
func kinds() []bool { return []bool{true, false} }

// TestEmpty: 19.1 to 19.5, a tree with a root of -1 has no pairs, no pages, and no height; nothing is deleted from it, and it stays the same.
func TestEmpty(t *testing.T) {
	s := made(t, 30, true)
	x := s.begin(t)
	steps := s.d.Steps()
	for _, epoch := range []int{0, 1, 99} {
		e := tree.Tree{Root: -1, Epoch: epoch}
		for _, p := range []tree.Pages{s.h, x} {
			if b, ok, code := e.Get(p, []byte("a")); len(b) != 0 || ok || code != api.OK {
				t.Errorf("Get: %q, %t, code %d", b, ok, code)
			}
			if l, code := e.Scan(p, nil, 9); len(l) != 0 || code != api.OK {
				t.Errorf("Scan: %v, code %d", l, code)
			}
			if l, code := e.Blocks(p); len(l) != 0 || code != api.OK {
				t.Errorf("Blocks: %v, code %d", l, code)
			}
			if n, code := e.Height(p); n != 0 || code != api.OK {
				t.Errorf("Height: %d, code %d", n, code)
			}
		}
		if now, ok, code := e.Delete(x, []byte("a")); now != e || ok || code != api.OK {
			t.Errorf("Delete: %v, %t, code %d", now, ok, code)
		}
	}
	if s.d.Steps() != steps || x.Dirty() != 0 {
		t.Errorf("%d steps, %d pages", s.d.Steps()-steps, x.Dirty())
	}
	s.check(t)
}

// TestExample: the chapter's example.
func TestExample(t *testing.T) {
	for _, ideal := range kinds() {
		s := made(t, 30, ideal)
		s.put(t, []byte("b"), []byte("2"))
		s.put(t, []byte("a"), []byte("1"))
		l, code := s.x.Scan(s.h, []byte("a\x00"), 9)
		if code != api.OK || !samePairs(l, []api.Pair{{Key: []byte("b"), Value: []byte("2")}}) {
			t.Errorf("%v, code %d", l, code)
		}
		s.check(t)
	}
}

// TestPages: 19.1, a tree's pages are nodes, stored where its root says and of the epoch that it says: one leaf, and a root above two.
func TestPages(t *testing.T) {
	s := made(t, 40, true)
	s.put(t, []byte("b"), wideOf(2))
	s.put(t, []byte("a"), wideOf(1))
	b, code := s.h.Load(s.x.Root, s.x.Epoch)
	leaf, _ := node.Put(api.Node{Leaf: true, Pairs: pairsOf(s.want)})
	if code != api.OK || !bytes.Equal(b, leaf) || s.x.Root != redo.Blocks || s.x.Epoch != 2 {
		t.Errorf("a root in block %d, of epoch %d: code %d", s.x.Root, s.x.Epoch, code)
	}
	s.put(t, []byte("c"), wideOf(3))
	s.put(t, []byte("d"), wideOf(4)) // three such pairs have room in a page
	b, code = s.h.Load(s.x.Root, 4)
	n, wrong := node.Get(b)
	if code != api.OK || wrong != api.OK || n.Leaf || len(n.Kids) != 2 {
		t.Fatalf("the root: code %d, code %d, %+v", code, wrong, n)
	}
	epochs := []int{n.Kids[0].Epoch, n.Kids[1].Epoch}
	if s.put(t, []byte("d"), wideOf(5)); s.x.Epoch != 5 || !slices.Equal(epochs, []int{4, 4}) {
		t.Errorf("the root is of epoch %d, its kids were of %v", s.x.Epoch, epochs)
	}
	b, _ = s.h.Load(s.x.Root, 5)
	n, _ = node.Get(b)
	if len(n.Kids) != 2 || n.Kids[0].Epoch != 4 || n.Kids[1].Epoch != 5 {
		t.Errorf("%+v", n)
	}
	s.check(t)
}
