package tree_test

import (
	"bytes"
	"slices"
	"testing"

	"deedbox/api"
	"deedbox/redo"
	"deedbox/tree"
)

// TestDelete: 19.3, pairs of short and of long keys, of small and of wide values, deleted in each order: behind each one all others are there, and no block but theirs is taken.
func TestDelete(t *testing.T) {
	small := func(i int) []byte { return row(i%3, uint32(i)) }
	for _, key := range []func(int) []byte{keyOf, longOf} {
		for _, value := range []func(int) []byte{small, wideOf} {
			for _, order := range orders(60) {
				s := made(t, 120, true)
				s.fill(t, 60, key, value)
				for _, i := range order {
					s.drop(t, key(i))
					s.check(t)
					checkGet(t, s.h, s.x, s.want, key(i))
				}
				if s.x != (tree.Tree{Root: -1}) || s.h.Space().Free() != 120-redo.Blocks {
					t.Errorf("%v, %d are free", s.x, s.h.Space().Free())
				}
			}
		}
	}
}

// TestDeleteReal: 19.3, for real as ideally.
func TestDeleteReal(t *testing.T) {
	s := made(t, 60, false)
	s.fill(t, 30, keyOf, wideOf)
	for i := range 30 {
		s.drop(t, keyOf(i*7%30))
		s.check(t)
	}
	s.open(t)
	s.put(t, []byte("a"), nil)
	s.check(t)
}

// TestDeleteNone: 19.3, where a key has no pair the tree is the same, and nothing is stored, taken or given: keys beside each one that there is, no key, such as are longer than may be.
func TestDeleteNone(t *testing.T) {
	for _, n := range []int{1, 3, 40} {
		s := made(t, 100, true)
		s.fill(t, n, keyOf, wideOf)
		x := s.begin(t)
		keys := [][]byte{nil, []byte("a"), []byte("z"), row(64, 3), row(65, 3), row(300, 3), append(keyOf(0), row(80, 3)...)}
		for i := range n {
			keys = append(keys, append(keyOf(i), 0), keyOf(i)[:2], append(keyOf(i), make([]byte, 62)...))
		}
		for _, key := range keys {
			if now, ok, code := s.x.Delete(x, key); now != s.x || ok || code != api.OK {
				t.Errorf("%q: %v, %t, code %d", key, now, ok, code)
			}
			if b, ok, code := s.x.Get(x, key); len(b) != 0 || ok || code != api.OK {
				t.Errorf("Get of %q: %q, %t, code %d", key, b, ok, code)
			}
		}
		if x.Dirty() != 0 {
			t.Errorf("%d pages", x.Dirty())
		}
		s.check(t)
		f, y, _ := grown(t, n, keyOf, wideOf)
		was := f.copy()
		for _, key := range keys {
			if now, ok, code := y.Delete(f, key); now != y || ok || code != api.OK || len(f.wrote) != 0 || len(f.gave) != 0 || !f.same(was) {
				t.Errorf("%q: %v, %t, code %d", key, now, ok, code)
			}
		}
	}
}

// TestDeleteTwice: 19.3, what was deleted is not there to be deleted once more, within the change, and behind it.
func TestDeleteTwice(t *testing.T) {
	s := made(t, 60, true)
	s.fill(t, 12, keyOf, wideOf)
	for i := range 12 {
		x := s.begin(t)
		now, ok, code := s.x.Delete(x, keyOf(i))
		if !ok || code != api.OK {
			t.Fatalf("%t, code %d", ok, code)
		}
		for range 2 {
			if then, ok, code := now.Delete(x, keyOf(i)); then != now || ok || code != api.OK {
				t.Errorf("%v, %t, code %d; want %v", then, ok, code, now)
			}
		}
		s.commit(t, x, now, without(s.want, keyOf(i)))
		if then, ok, code := s.x.Delete(s.begin(t), keyOf(i)); then != s.x || ok || code != api.OK {
			t.Errorf("%v, %t, code %d; want %v", then, ok, code, s.x)
		}
	}
}

// TestDeleteInOneChange: 19.3, many pairs in one change, down to none, and others put behind that.
func TestDeleteInOneChange(t *testing.T) {
	for _, ideal := range kinds() {
		s := made(t, 80, ideal)
		s.fill(t, 40, keyOf, wideOf)
		x := s.begin(t)
		now, want := s.x, s.want
		for i := range 40 {
			var ok bool
			var code api.Code
			if now, ok, code = now.Delete(x, keyOf(i*11%40)); !ok || code != api.OK {
				t.Fatalf("%t, code %d", ok, code)
			}
			want = without(want, keyOf(i*11%40))
			checkTree(t, x, now, want)
			s.check(t)
		}
		if now != (tree.Tree{Root: -1}) || x.Dirty() != 0 {
			t.Errorf("%v, %d pages", now, x.Dirty())
		}
		now, code := now.Put(x, []byte("new"), wideOf(1))
		if code != api.OK || x.Dirty() != 1 {
			t.Fatalf("code %d, %d pages", code, x.Dirty())
		}
		s.commit(t, x, now, map[string]string{"new": string(wideOf(1))})
		s.check(t)
		s.open(t)
		s.check(t)
	}
}

// TestDeletePages: 19.3 and 19.6, where many pairs are deleted, whichever, what is left takes few pages: two beside each other never have room in one.
func TestDeletePages(t *testing.T) {
	for n, order := range orders(300) {
		s := made(t, 600, true)
		s.fill(t, 300, longOf, wideOf)
		for _, i := range order[:280] {
			s.drop(t, longOf(i))
		}
		s.check(t)
		if l := looked(t, s.h, s.x); len(l.blocks) > 30 {
			t.Errorf("order %d: 20 pairs on %d pages", n, len(l.blocks))
		}
	}
}

// lone is a fake with a root above kids that stand on the pages from 1 on.
func lone(t *testing.T, kids ...api.Node) (*fake, tree.Tree) {
	t.Helper()
	f := newFake(20)
	root := api.Node{}
	for i, n := range kids {
		k := api.Kid{Page: 1 + i, Epoch: 1}
		if i > 0 {
			k.Key = []byte{byte('a' + i)}
		}
		root.Kids = append(root.Kids, k)
		f.lay(t, 1+i, n)
	}
	f.lay(t, 0, root)
	f.epoch = 2
	return f, tree.Tree{Root: 0, Epoch: 1}
}

func leafOf(keys ...string) api.Node {
	n := api.Node{Leaf: true}
	for _, key := range keys {
		n.Pairs = append(n.Pairs, api.Pair{Key: []byte(key), Value: wideOf(len(key))})
	}
	return n
}

// TestDeleteLastOfLeaf: 19.3, a leaf without pairs is left out, first, in the middle, last: what stood beside it stays as it was, and may be put into where the leaf was.
func TestDeleteLastOfLeaf(t *testing.T) {
	for _, gone := range []string{"a", "b", "c"} {
		kids := []api.Node{leafOf("a", "aa", "aaa"), leafOf("b", "bb", "bbb"), leafOf("c", "cc", "ccc")}
		at := int(gone[0] - 'a')
		kids[at] = leafOf(gone)
		f, x := lone(t, kids...)
		want := map[string]string{}
		for i, n := range kids {
			for _, p := range n.Pairs {
				if i != at {
					want[string(p.Key)] = string(p.Value)
				}
			}
		}
		x, ok, code := x.Delete(f, []byte(gone))
		if !ok || code != api.OK || len(f.wrote) != 1 || len(f.gave) != 1 || f.gave[0] != 1+at {
			t.Errorf("%s: %t, code %d, %d stores, %v given", gone, ok, code, len(f.wrote), f.gave)
		}
		checkTree(t, f, x, want)
		for i, key := range []string{gone + "zz", gone, gone + "y", ""} {
			f.epoch++
			if x, code = x.Put(f, []byte(key), wideOf(i)); code != api.OK {
				t.Fatalf("%s: code %d", gone, code)
			}
			want[key] = string(wideOf(i))
			checkTree(t, f, x, want)
		}
		if len(f.taken) != len(looked(t, f, x).blocks) {
			t.Errorf("%s: %d blocks are taken", gone, len(f.taken))
		}
	}
}

// TestDeleteJoins: 19.3, a leaf that has less is one with the one ahead of it, if both have room on a page, else with the one behind it, else it stands alone.
func TestDeleteJoins(t *testing.T) {
	for _, l := range []struct {
		ahead, behind []string
		given         []int
	}{
		{[]string{"a", "aa"}, []string{"c", "cc"}, []int{2}},
		{[]string{"a", "aa"}, []string{"c", "cc", "ccc"}, []int{2}},
		{[]string{"a", "aa", "aaa"}, []string{"c", "cc"}, []int{3}},
		{[]string{"a", "aa", "aaa"}, []string{"c", "cc", "ccc"}, nil},
	} {
		f, x := lone(t, leafOf(l.ahead...), leafOf("b", "bb"), leafOf(l.behind...))
		want := map[string]string{"bb": string(wideOf(2))}
		for _, key := range append(append([]string{}, l.ahead...), l.behind...) {
			want[key] = string(wideOf(len(key)))
		}
		x, ok, code := x.Delete(f, []byte("b"))
		if !ok || code != api.OK || !slices.Equal(f.gave, l.given) {
			t.Errorf("%v and %v: %t, code %d, %v given; want %v", l.ahead, l.behind, ok, code, f.gave, l.given)
		}
		if n := len(checkTree(t, f, x, want)); n != 4-len(l.given) || len(f.taken) != n {
			t.Errorf("%v and %v: %d blocks, %d are taken", l.ahead, l.behind, n, len(f.taken))
		}
	}
}

// TestDeleteJoinsLastByte: 19.3, two leaves that take a page to the last byte together are one; with one byte more they are two.
func TestDeleteJoinsLastByte(t *testing.T) {
	for more := -1; more < 3; more++ {
		b := sized(t, "b", 230)
		b.Pairs = append(b.Pairs, api.Pair{Key: []byte("bc"), Value: wideOf(1)})
		f, x := lone(t, sized(t, "a", 496+3-230+more), b)
		x, ok, code := x.Delete(f, []byte("bc"))
		l, wrong := x.Blocks(f)
		want := 1
		if more > 0 {
			want = 3
		}
		if !ok || code != api.OK || wrong != api.OK || len(l) != want || len(f.taken) != want {
			t.Errorf("%d more: %t, code %d, %v, %d are taken", more, ok, code, l, len(f.taken))
		}
	}
}

// TestDeleteJoinsKinds: P0, a leaf beside which a node with kids stands, as no tree has it, stands alone.
func TestDeleteJoinsKinds(t *testing.T) {
	f, x := lone(t, leafOf("a", "aa"), api.Node{Kids: []api.Kid{{Page: 10, Epoch: 1}}})
	f.lay(t, 10, leafOf("b"))
	x, ok, code := x.Delete(f, []byte("a"))
	if !ok || code != api.OK || len(f.gave) != 0 {
		t.Fatalf("%t, code %d, %v given", ok, code, f.gave)
	}
	if l, code := x.Scan(f, nil, 9); code != api.OK || !samePairs(l, leafOf("aa", "b").Pairs) {
		t.Errorf("%d pairs, code %d", len(l), code)
	}
}

// TestDeleteRoots: 19.3, a root with one kid alone is none: the kid is, of the change's epoch, and so on downwards.
func TestDeleteRoots(t *testing.T) {
	for deep := range 6 {
		f, x := lone(t, leafOf("a"), api.Node{Kids: []api.Kid{{Page: 10, Epoch: 1}}})
		for i := range deep {
			f.lay(t, 10+i, api.Node{Kids: []api.Kid{{Page: 11 + i, Epoch: 1}}})
		}
		f.lay(t, 10+deep, leafOf("b", "c"))
		was := f.pages[10+deep]
		x, ok, code := x.Delete(f, []byte("a"))
		if !ok || code != api.OK || x != (tree.Tree{Root: 10 + deep, Epoch: 2}) {
			t.Fatalf("%d deep: %v, %t, code %d", deep, x, ok, code)
		}
		if now := f.pages[10+deep]; now.epoch != 2 || !bytes.Equal(now.b, was.b) || len(f.taken) != 1 {
			t.Errorf("%d deep: of epoch %d, %d are taken", deep, now.epoch, len(f.taken))
		}
		high(t, f, x, 1)
	}
}

// TestDeleteLonely: 19.3, with the last pair below a node the node is given back, too; so is a root above one kid alone, and what stands alone below that.
func TestDeleteLonely(t *testing.T) {
	f, x := lone(t, api.Node{Kids: []api.Kid{{Page: 10, Epoch: 1}}}, api.Node{Kids: []api.Kid{{Page: 20, Epoch: 1}}})
	f.lay(t, 10, leafOf("a"))
	f.lay(t, 20, leafOf("b"))
	x, ok, code := x.Delete(f, []byte("a"))
	if slices.Sort(f.gave); !ok || code != api.OK || x != (tree.Tree{Root: 20, Epoch: 2}) || !slices.Equal(f.gave, []int{0, 1, 2, 10}) {
		t.Fatalf("%v, %t, code %d, %v given", x, ok, code, f.gave)
	}
	checkTree(t, f, x, map[string]string{"b": string(wideOf(1))})
	x, ok, code = x.Delete(f, []byte("b"))
	if !ok || code != api.OK || x != (tree.Tree{Root: -1}) || len(f.taken) != 0 {
		t.Fatalf("%v, %t, code %d, %d are taken", x, ok, code, len(f.taken))
	}
}

// TestDeleteLonelyWay: 19.3, what is given back on the way is not stored ahead of that.
func TestDeleteLonelyWay(t *testing.T) {
	f, x := lone(t, api.Node{Kids: []api.Kid{{Page: 10, Epoch: 1}, {Key: []byte("b"), Page: 20, Epoch: 1}}})
	f.lay(t, 10, leafOf("a", "aa"))
	f.lay(t, 20, leafOf("b", "bb"))
	x, ok, code := x.Delete(f, []byte("aa"))
	if !ok || code != api.OK || x != (tree.Tree{Root: 10, Epoch: 2}) || !slices.Equal(f.wrote, []int{10}) {
		t.Errorf("%v, %t, code %d, %v stored", x, ok, code, f.wrote)
	}
	if slices.Sort(f.gave); !slices.Equal(f.gave, []int{0, 1, 20}) {
		t.Errorf("%v given", f.gave)
	}
	checkTree(t, f, x, map[string]string{"a": string(wideOf(1)), "b": string(wideOf(1)), "bb": string(wideOf(2))})
}

// TestDeleteBesideNothing: P0, a leaf without pairs, as no tree has it, goes with the last pair beside it.
func TestDeleteBesideNothing(t *testing.T) {
	f, x := lone(t, leafOf(), leafOf("b"))
	if x, ok, code := x.Delete(f, []byte("b")); x != (tree.Tree{Root: -1}) || !ok || code != api.OK || len(f.taken) != 0 {
		t.Errorf("%v, %t, code %d, %d are taken", x, ok, code, len(f.taken))
	}
}
