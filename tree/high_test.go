package tree_test

import (
	"slices"
	"testing"

	"deedbox/api"
	"deedbox/tree"
)

// beside is the first key of a kid beside the way, so many pages below the root: all of these are behind the keys on the way.
func beside(deep, kid int) []byte { return longOf(1000 - 20*deep + 2*kid) }

// tower is pages of a tree so many pages high, whose way to its first leaf is full at each page. The other kids stand on pages that nobody stored. The leaf has the pairs 200 and 202.
func tower(t *testing.T, height, free int) (*fake, tree.Tree) {
	t.Helper()
	f := newFake(free)
	for deep := range height - 1 {
		n := api.Node{Kids: []api.Kid{{Page: 31 + deep, Epoch: 1}}}
		for kid := 1; kid < 7; kid++ {
			n.Kids = append(n.Kids, api.Kid{Key: beside(deep, kid), Page: 100 + 10*deep + kid, Epoch: 1})
			f.taken[100+10*deep+kid] = true
		}
		f.lay(t, 30+deep, n)
	}
	f.lay(t, 30+height-1, api.Node{Leaf: true, Pairs: []api.Pair{{Key: longOf(200), Value: wideOf(0)}, {Key: longOf(202), Value: wideOf(2)}}})
	f.epoch = 2
	return f, tree.Tree{Root: 30, Epoch: 1}
}

// high holds Height against what is wanted.
func high(t *testing.T, f *fake, x tree.Tree, want int) {
	t.Helper()
	if n, code := x.Height(f); n != want || code != api.OK {
		t.Errorf("Height: %d, code %d; want %d", n, code, want)
	}
}

// TestHighest: 19.2 and 19.5, a tree that would be higher than MaxHeight is ErrFull, and nothing is changed; one that would be as high as that is put.
func TestHighest(t *testing.T) {
	if tree.MaxHeight != 8 {
		t.Fatalf("MaxHeight is %d", tree.MaxHeight)
	}
	for height := 1; height <= 8; height++ {
		f, x := tower(t, height, 20)
		was := f.copy()
		high(t, f, x, height)
		now, code := x.Put(f, longOf(201), wideOf(1))
		if height == 8 {
			if code != api.ErrFull || now != (tree.Tree{}) || len(f.wrote) != 0 || !f.same(was) {
				t.Errorf("%d high: %v, code %d, %d stores", height, now, code, len(f.wrote))
			}
			continue
		}
		if code != api.OK || now.Root == x.Root || now.Epoch != 2 || f.free != 20-height-1 {
			t.Errorf("%d high: %v, code %d, %d are free", height, now, code, f.free)
		}
		high(t, f, now, height+1)
		l, code := now.Scan(f, nil, 3)
		if code != api.OK || !samePairs(l, []api.Pair{{Key: longOf(200), Value: wideOf(0)}, {Key: longOf(201), Value: wideOf(1)}, {Key: longOf(202), Value: wideOf(2)}}) {
			t.Errorf("%d high: %d pairs, code %d", height, len(l), code)
		}
	}
}

// TestHighestOrder: 19.2 and R6, where there are not as many pages as it would take, ErrNoSpace is ahead of ErrFull; ErrSize of both.
func TestHighestOrder(t *testing.T) {
	for free := range 12 {
		f, x := tower(t, 8, free)
		was := f.copy()
		want := api.ErrNoSpace
		if free >= 9 {
			want = api.ErrFull
		}
		for _, l := range []struct {
			key, value []byte
			want       api.Code
		}{{longOf(201), wideOf(1), want}, {longOf(201), row(161, 1), api.ErrSize}, {append(longOf(201), 0), nil, api.ErrSize}} {
			if now, code := x.Put(f, l.key, l.value); code != l.want || now != (tree.Tree{}) || !f.same(was) || len(f.wrote) != 0 {
				t.Errorf("%d pages: %v, code %d; want %d", free, now, code, l.want)
			}
		}
	}
}

// TestHighestStays: 19.2 to 19.4, a tree as high as can be is put into where no root has to be parted, deleted from, and read; no page is needed for that.
func TestHighestStays(t *testing.T) {
	f, x := tower(t, 8, 0)
	f.lay(t, 161, api.Node{Leaf: true, Pairs: []api.Pair{{Key: beside(6, 1), Value: wideOf(3)}, {Key: longOf(883), Value: wideOf(4)}}})
	x, code := x.Put(f, longOf(200), wideOf(9))
	if code != api.OK {
		t.Fatalf("Put: code %d", code)
	}
	f.epoch = 3
	x, ok, code := x.Delete(f, longOf(202))
	if !ok || code != api.OK || len(f.wrote) != 16 || len(f.gave) != 0 {
		t.Fatalf("Delete: %t, code %d, %d stores, %v given", ok, code, len(f.wrote), f.gave)
	}
	high(t, f, x, 8)
	l, code := x.Scan(f, longOf(100), 2)
	if code != api.OK || !samePairs(l, []api.Pair{{Key: longOf(200), Value: wideOf(9)}, {Key: beside(6, 1), Value: wideOf(3)}}) {
		t.Errorf("%d pairs, code %d", len(l), code)
	}
	if b, ok, code := x.Get(f, longOf(883)); string(b) != string(wideOf(4)) || !ok || code != api.OK {
		t.Errorf("%t, code %d", ok, code)
	}
}

// TestLow: 19.5, where keys are told apart by their first bytes a page tells of many below it, however long they are: a tree of many pairs is low.
func TestLow(t *testing.T) {
	f, x, want := grown(t, 60, func(i int) []byte { return append([]byte{byte(i * 7 % 60)}, longOf(i)[:63]...) }, wideOf)
	if l := checkTree(t, f, x, want); len(l) < 25 {
		t.Errorf("just %d pages", len(l))
	}
	high(t, f, x, 2)
}

// TestHeight: 19.5, each height that a tree of many pairs comes by, going up and going down, one at a time.
func TestHeight(t *testing.T) {
	s := made(t, 1200, true)
	var heights []int
	check := func() {
		t.Helper()
		n, code := s.x.Height(s.h)
		if want := looked(t, s.h, s.x).height; n != want || code != api.OK {
			t.Fatalf("Height: %d, code %d; want %d", n, code, want)
		}
		if len(heights) == 0 || heights[len(heights)-1] != n {
			heights = append(heights, n)
		}
	}
	check()
	for i := range 280 {
		s.put(t, longOf(i), wideOf(i))
		check()
	}
	s.check(t)
	for i := range 280 {
		s.drop(t, longOf(i*89%280))
		check()
	}
	s.check(t)
	if !slices.Equal(heights, []int{0, 1, 2, 3, 4, 5, 4, 3, 2, 1, 0}) {
		t.Errorf("heights: %v", heights)
	}
}
