package tree_test

import (
	"bytes"
	"math"
	"slices"
	"testing"

	"deedbox/api"
	"deedbox/tree"
)

// checkScan holds Scan against what a tree is to have.
func checkScan(t *testing.T, p tree.Pages, x tree.Tree, pairs []api.Pair, from []byte, most int) {
	t.Helper()
	at := 0
	for at < len(pairs) && bytes.Compare(pairs[at].Key, from) < 0 {
		at++
	}
	want := pairs[at:]
	want = want[:max(0, min(most, len(want)))]
	if got, code := x.Scan(p, from, most); code != api.OK || !samePairs(got, want) {
		t.Errorf("Scan from %q, %d at most: %d pairs, code %d; want %d", from, most, len(got), code, len(want))
	}
}

// TestScan: 19.4, from each key that there is, and from keys ahead of it and behind it, any number of pairs at most: none, fewer than there are, all, more.
func TestScan(t *testing.T) {
	for _, key := range []func(int) []byte{keyOf, longOf} {
		s := made(t, 120, true)
		s.fill(t, 50, func(i int) []byte { return key(3 * i) }, wideOf)
		s.put(t, nil, []byte("empty"))
		s.put(t, key(31)[:2], []byte("short"))
		pairs := pairsOf(s.want)
		froms := [][]byte{nil, {}, {0}, []byte("a"), []byte("z"), bytes.Repeat([]byte{255}, 64), bytes.Repeat([]byte{255}, 99), bytes.Repeat([]byte("k"), 99)}
		for _, p := range pairs {
			froms = append(froms, p.Key, append(bytes.Clone(p.Key), 0), p.Key[:max(0, len(p.Key)-1)])
		}
		for i := range 151 {
			froms = append(froms, key(i))
		}
		for _, from := range froms {
			for _, most := range []int{1, 2, 3, 7, 51, 52, 53, math.MaxInt, 0, -1, math.MinInt} {
				checkScan(t, s.h, s.x, pairs, from, most)
			}
		}
		for most := range 60 {
			checkScan(t, s.h, s.x, pairs, key(20), most)
		}
	}
}

// TestScanWay: 19.4, what is ahead of the pairs that are asked for, and behind them, is not needed: nobody hears of a page there that can't be loaded.
func TestScanWay(t *testing.T) {
	f, x, want := grown(t, 60, longOf, wideOf)
	pairs := pairsOf(want)
	for i := range pairs {
		f.loaded = nil
		if _, ok, code := x.Get(f, longOf(i)); !ok || code != api.OK {
			t.Fatalf("%t, code %d", ok, code)
		}
		g := f.copy()
		for page := range g.taken {
			if !slices.Contains(f.loaded, page) {
				g.bad[page] = api.ErrIntegrity
			}
		}
		checkScan(t, g, x, pairs, longOf(i), 1)
		if len(f.loaded) != len(g.loaded) || len(g.bad) < 30 {
			t.Errorf("pair %d: %d pages, of %d that are bad", i, len(g.loaded), len(g.bad))
		}
	}
}

// TestScanOfOne: 19.4, of a tree of one page, and of one pair.
func TestScanOfOne(t *testing.T) {
	s := made(t, 30, true)
	for i := range 3 {
		s.put(t, keyOf(10*i), nil)
		for j := range 40 {
			for most := -1; most < 5; most++ {
				checkScan(t, s.h, s.x, pairsOf(s.want), keyOf(j), most)
			}
		}
	}
}

// TestScanOn: 19.4, page by page, each from what is next behind the last key: all pairs, each once.
func TestScanOn(t *testing.T) {
	s := made(t, 120, true)
	s.fill(t, 60, keyOf, wideOf)
	for most := 1; most < 70; most += 3 {
		var got []api.Pair
		var from []byte
		for {
			l, code := s.x.Scan(s.h, from, most)
			if code != api.OK || len(l) > most {
				t.Fatalf("%d at most: %d, code %d", most, len(l), code)
			}
			if len(l) == 0 {
				break
			}
			got, from = append(got, l...), append(l[len(l)-1].Key, 0)
		}
		if !samePairs(got, pairsOf(s.want)) {
			t.Errorf("%d at most: %d pairs", most, len(got))
		}
	}
}

// TestGet: 19.4, each key of a tree, and keys that are the beginning of one, or have one as their beginning, from a sheaf, from a change, and behind opening anew.
func TestGet(t *testing.T) {
	for _, ideal := range kinds() {
		s := made(t, 100, ideal)
		for i := range 30 {
			s.put(t, bytes.Repeat([]byte{'g'}, i*2), wideOf(i))
			s.put(t, append(bytes.Repeat([]byte{'g'}, i*2), 'a', byte(i)), row(i, 9))
		}
		checkGets(t, s.h, s.x, s.want)
		checkGets(t, s.begin(t), s.x, s.want)
		s.open(t)
		checkGets(t, s.h, s.x, s.want)
		checkGet(t, s.h, s.x, s.want, row(65, 1))
		checkGet(t, s.h, s.x, s.want, bytes.Repeat([]byte{'g'}, 400))
	}
}

// TestGetOfOld: 19.1, a tree is of an epoch: one that was is not read as the one that is.
func TestGetOfOld(t *testing.T) {
	s := made(t, 60, true)
	s.fill(t, 2, keyOf, wideOf)
	old := s.x
	s.put(t, keyOf(1), []byte("new"))
	if b, ok, code := old.Get(s.h, keyOf(1)); code != api.ErrIntegrity || ok || len(b) != 0 {
		t.Errorf("%q, %t, code %d", b, ok, code)
	}
	for _, x := range []tree.Tree{{Root: s.x.Root, Epoch: s.x.Epoch + 100}, {Root: s.x.Root + 1, Epoch: s.x.Epoch}, {Root: 0, Epoch: s.x.Epoch}} {
		refuses(t, s, x, api.ErrIntegrity)
	}
	refuses(t, s, tree.Tree{Root: s.x.Root, Epoch: -1}, api.ErrArg)
	refuses(t, s, tree.Tree{Root: 60, Epoch: s.x.Epoch}, api.ErrRange)
	refuses(t, s, tree.Tree{Root: math.MaxInt, Epoch: math.MaxInt}, api.ErrRange)
	s.check(t)
}

// refuses holds each call on a tree whose root can't be loaded against a code: nothing else is answered, nor done.
func refuses(t *testing.T, s *store, x tree.Tree, want api.Code) {
	t.Helper()
	c := s.begin(t)
	if b, ok, code := x.Get(s.h, keyOf(1)); code != want || ok || len(b) != 0 {
		t.Errorf("%v: Get: %q, %t, code %d", x, b, ok, code)
	}
	if l, code := x.Scan(s.h, nil, 9); code != want || len(l) != 0 {
		t.Errorf("%v: Scan: %d, code %d", x, len(l), code)
	}
	if l, code := x.Blocks(s.h); code != want || len(l) != 0 {
		t.Errorf("%v: Blocks: %v, code %d", x, l, code)
	}
	if n, code := x.Height(s.h); code != want || n != 0 {
		t.Errorf("%v: Height: %d, code %d", x, n, code)
	}
	if now, code := x.Put(c, keyOf(1), nil); code != want || now != (tree.Tree{}) {
		t.Errorf("%v: Put: %v, code %d", x, now, code)
	}
	if now, ok, code := x.Delete(c, keyOf(1)); code != want || ok || now != (tree.Tree{}) {
		t.Errorf("%v: Delete: %v, %t, code %d", x, now, ok, code)
	}
	if c.Dirty() != 0 {
		t.Errorf("%v: %d pages", x, c.Dirty())
	}
}

// TestBlocks: 19.5, all pages of a tree, each once, and ahead of those below it; those of a change within it, and no others' blocks.
func TestBlocks(t *testing.T) {
	s := made(t, 200, true)
	s.fill(t, 80, longOf, wideOf)
	l, code := s.x.Blocks(s.h)
	if code != api.OK || !slices.Equal(l, looked(t, s.h, s.x).blocks) || l[0] != s.x.Root || len(l) < 40 {
		t.Errorf("%v, code %d", l, code)
	}
	x := s.begin(t)
	now, code := s.x.Put(x, longOf(100), wideOf(1))
	if code != api.OK {
		t.Fatalf("code %d", code)
	}
	more, code := now.Blocks(x)
	if code != api.OK || !slices.Equal(more, looked(t, x, now).blocks) {
		t.Errorf("%v, code %d", more, code)
	}
	if again, code := s.x.Blocks(s.h); code != api.OK || !slices.Equal(again, l) {
		t.Errorf("%v, code %d", again, code)
	}
	s.check(t)
}
