package tree_test

import (
	"bytes"
	"math/rand/v2"
	"testing"

	"deedbox/api"
	"deedbox/node"
	"deedbox/tree"
)

// orders is numbers below n: rising, falling, from both ends, and in disorder.
func orders(n int) [][]int {
	var up, down, ends []int
	for i := range n {
		up, down = append(up, i), append(down, n-1-i)
		if i%2 == 0 {
			ends = append(ends, i/2)
		} else {
			ends = append(ends, n-1-i/2)
		}
	}
	return [][]int{up, down, ends, rand.New(rand.NewPCG(19, 2)).Perm(n)}
}

// TestPut: 19.2, pairs of short and of long keys, of small and of wide values, in each order: after each one all are there.
func TestPut(t *testing.T) {
	small := func(i int) []byte { return row(i%3, uint32(i)) }
	for _, key := range []func(int) []byte{keyOf, longOf} {
		for _, value := range []func(int) []byte{small, wideOf} {
			for _, order := range orders(60) {
				s := made(t, 120, true)
				for _, i := range order {
					s.put(t, key(i), value(i))
					s.check(t)
				}
				checkGets(t, s.h, s.x, s.want)
			}
		}
	}
}

// TestPutReal: 19.2, for real as ideally.
func TestPutReal(t *testing.T) {
	s := made(t, 60, false)
	s.fill(t, 30, keyOf, wideOf)
	s.check(t)
	s.open(t)
	s.check(t)
	checkGets(t, s.h, s.x, s.want)
}

// TestPutAgain: 19.2, another value takes the place of the one that the key has: longer, shorter, as long, none, the same.
func TestPutAgain(t *testing.T) {
	s := made(t, 60, true)
	s.fill(t, 20, keyOf, func(i int) []byte { return row(80, uint32(i)) })
	for n, size := range []int{160, 0, 80, 1, 159, 160, 0} {
		for i := range 20 {
			s.put(t, keyOf(i*7%20), row(size, uint32(100*n+i)))
			s.check(t)
		}
	}
	at := s.x.Root
	s.put(t, keyOf(3), nil)
	if s.x.Root != at || len(s.want) != 20 {
		t.Errorf("the root is in block %d, no more in %d", s.x.Root, at)
	}
	s.check(t)
	checkGets(t, s.h, s.x, s.want)
}

// TestPutAgainSmaller: 19.2, where values are shorter than they were, the tree has no page more than one where they were short at once would have, and one of them.
func TestPutAgainSmaller(t *testing.T) {
	s := made(t, 120, true)
	s.fill(t, 40, keyOf, wideOf)
	high := len(looked(t, s.h, s.x).blocks)
	for i := range 40 {
		s.put(t, keyOf(i), nil)
	}
	s.check(t)
	if l := looked(t, s.h, s.x); len(l.blocks) != 1 || l.height != 1 || high < 15 {
		t.Errorf("%d blocks, and %d then", high, len(l.blocks))
	}
}

// TestPutSizes: 19.2, keys of up to MaxKey bytes, the empty one, too; values of up to MaxValue bytes; one more of either is ErrSize, and nothing is done.
func TestPutSizes(t *testing.T) {
	s := made(t, 60, true)
	for _, k := range []int{0, 1, 63, 64} {
		for _, v := range []int{0, 1, 159, 160} {
			s.put(t, row(k, 5), row(v, uint32(k)))
			s.check(t)
			checkGets(t, s.h, s.x, s.want)
		}
	}
	x := s.begin(t)
	steps := s.p.Steps()
	for _, l := range [][2]int{{65, 0}, {65, 160}, {0, 161}, {64, 161}, {65, 161}, {1000, 1000}, {256, 0}, {0, 256}, {320, 416}} {
		for _, at := range []tree.Tree{s.x, {Root: -1}, {Root: 50, Epoch: 1}, {Root: 24, Epoch: -1}, {Root: 99999}} {
			if now, code := at.Put(x, row(l[0], 6), row(l[1], 7)); now != (tree.Tree{}) || code != api.ErrSize {
				t.Errorf("%v of %v: %v, code %d", l, at, now, code)
			}
		}
	}
	if x.Dirty() != 0 || s.p.Steps() != steps {
		t.Errorf("%d pages, %d steps", x.Dirty(), s.p.Steps()-steps)
	}
	s.commit(t, s.begin(t), s.x, s.want)
	s.check(t)
}

// TestPutOneByte: 19.2, keys that are told apart by what stands behind them alone, and by each byte that there is.
func TestPutOneByte(t *testing.T) {
	s := made(t, 120, true)
	for i := range 64 {
		s.put(t, make([]byte, i*37%65), row(i, uint32(i)))
	}
	for i := range 256 {
		s.put(t, []byte{byte(i * 91)}, row(20, uint32(i)))
	}
	s.check(t)
	checkGets(t, s.h, s.x, s.want)
}

// TestPutInOneChange: 19.2, acts in one change are one behind the other; within it the tree has what they did, outside it nothing, till it is done.
func TestPutInOneChange(t *testing.T) {
	for _, ideal := range kinds() {
		s := made(t, 60, ideal)
		s.fill(t, 6, keyOf, wideOf)
		x := s.begin(t)
		now, want := s.x, s.want
		for i := range 12 {
			var code api.Code
			if now, code = now.Put(x, keyOf(i+3), row(100, uint32(i))); code != api.OK {
				t.Fatalf("code %d", code)
			}
			want = with(want, keyOf(i+3), row(100, uint32(i)))
			if i%3 == 2 {
				var ok bool
				if now, ok, code = now.Delete(x, keyOf(i)); !ok || code != api.OK {
					t.Fatalf("%t, code %d", ok, code)
				}
				want = without(want, keyOf(i))
			}
			checkTree(t, x, now, want)
			checkGets(t, x, now, want)
			s.check(t)
		}
		s.commit(t, x, now, want)
		s.check(t)
		s.open(t)
		s.check(t)
	}
}

// TestPutNotCommitted: 19.2, a change that is not committed changes nothing, nor does the next one know of it.
func TestPutNotCommitted(t *testing.T) {
	s := made(t, 60, true)
	s.fill(t, 8, keyOf, wideOf)
	for i := range 20 {
		x := s.begin(t)
		if _, code := s.x.Put(x, keyOf(100+i), wideOf(i)); code != api.OK {
			t.Errorf("code %d", code)
		}
		if _, ok, code := s.x.Delete(s.begin(t), keyOf(i%8)); !ok || code != api.OK {
			t.Errorf("%t, code %d", ok, code)
		}
		s.check(t)
	}
	s.put(t, []byte("last"), nil)
	s.check(t)
}

// TestPutFewPages: 19.2, an act stores the pages on its way, and those that are new, alone.
func TestPutFewPages(t *testing.T) {
	s := made(t, 400, true)
	s.fill(t, 150, longOf, wideOf)
	high := looked(t, s.h, s.x).height
	for i := range 150 {
		x := s.begin(t)
		now, code := s.x.Put(x, longOf(i), bytes.Repeat([]byte{1}, 160))
		if code != api.OK || x.Dirty() != high {
			t.Errorf("code %d, %d pages of a tree %d high", code, x.Dirty(), high)
		}
		s.commit(t, x, now, with(s.want, longOf(i), bytes.Repeat([]byte{1}, 160)))
	}
	if high < 3 {
		t.Errorf("just %d high", high)
	}
	s.check(t)
}

// sized is a leaf with pairs of a key's letter that takes so many bytes.
func sized(t *testing.T, letter string, size int) api.Node {
	t.Helper()
	n := leafOf(letter, letter+"a", letter+"b")
	size -= node.Size(n)
	for i := range n.Pairs {
		more := max(-160, min(size, 160-len(n.Pairs[i].Value)))
		n.Pairs[i].Value = row(len(n.Pairs[i].Value)+more, uint32(i))
		size -= more
	}
	if size != 0 {
		t.Fatalf("%s: %d bytes are left", letter, size)
	}
	return n
}

// TestPutLastByte: 19.2, a leaf that takes a page to the last byte is one page; with one byte more it is two.
func TestPutLastByte(t *testing.T) {
	for more := range 4 {
		f, x := lone(t, sized(t, "a", 490), sized(t, "b", 480), sized(t, "c", 490))
		x, code := x.Put(f, []byte("bc"), row(10+more, 1)) // 14 bytes, and some
		l, wrong := x.Blocks(f)
		want := 4
		if more > 2 {
			want = 5
		}
		if code != api.OK || wrong != api.OK || len(l) != want || len(f.taken) != want || len(f.wrote) != want-2 {
			t.Errorf("%d more: code %d, %v, %v stored", more, code, l, f.wrote)
		}
	}
}
