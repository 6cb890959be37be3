package tree_test

import (
	"bytes"
	"slices"
	"testing"

	"deedbox/api"
	"deedbox/redo"
	"deedbox/tree"
)

// filled is a store on a disk of so many blocks, behind which no more pair of a wide value can be put: the first number whose pair was refused.
func filled(t *testing.T, size int, ideal bool, key func(int) []byte) (*store, int) {
	t.Helper()
	s := made(t, size, ideal)
	for i := 0; ; i++ {
		x := s.begin(t)
		now, code := s.x.Put(x, key(i), wideOf(i))
		if code == api.ErrNoSpace {
			if now != (tree.Tree{}) || x.Dirty() != 0 {
				t.Errorf("%d blocks, pair %d: %v, %d pages", size, i, now, x.Dirty())
			}
			s.check(t)
			return s, i
		}
		if code != api.OK {
			t.Fatalf("%d blocks, pair %d: code %d", size, i, code)
		}
		s.commit(t, x, now, with(s.want, key(i), wideOf(i)))
		s.check(t)
	}
}

// TestNoSpace: 19.2 and 19.6, on disks of each size pairs are put till there is no page: then all is as it was, also within the change, which goes on; a page that an act took in vain is free again.
func TestNoSpace(t *testing.T) {
	for size := redo.Blocks; size < redo.Blocks+14; size++ {
		for _, key := range []func(int) []byte{keyOf, longOf} {
			s, n := filled(t, size, true, key)
			x := s.begin(t)
			for range 3 {
				if now, code := s.x.Put(x, key(n), wideOf(n)); now != (tree.Tree{}) || code != api.ErrNoSpace {
					t.Errorf("%d blocks: %v, code %d", size, now, code)
				}
			}
			now, want := s.x, s.want
			for i := range n {
				var code api.Code
				if now, code = now.Put(x, key(i), wideOf(i+1)); code != api.OK {
					t.Fatalf("%d blocks, pair %d again: code %d", size, i, code)
				}
				want = with(want, key(i), wideOf(i+1))
				if now, code := now.Put(x, key(n), wideOf(n)); now != (tree.Tree{}) || code != api.ErrNoSpace {
					t.Errorf("%d blocks: %v, code %d", size, now, code)
				}
				checkTree(t, x, now, want)
			}
			s.commit(t, x, now, want)
			s.check(t)
			s.open(t)
			s.check(t)
		}
	}
}

// TestNoSpaceLess: 19.2, where nothing has to be parted no page is needed, not on a full disk either; each pair that has no room is refused.
func TestNoSpaceLess(t *testing.T) {
	s := made(t, redo.Blocks+1, true)
	for i := range 24 {
		s.put(t, keyOf(i), row(15, uint32(i))) // twenty bytes each: 483
	}
	for size, want := range map[int]api.Code{0: api.OK, 8: api.OK, 9: api.ErrNoSpace, 160: api.ErrNoSpace} {
		x := s.begin(t)
		now, code := s.x.Put(x, []byte("new"), row(size, 1))
		if code != want || (now == tree.Tree{}) != (code != api.OK) {
			t.Errorf("%d bytes: %v, code %d", size, now, code)
		}
	}
	s.put(t, []byte("new"), row(8, 1)) // 496
	for _, key := range [][]byte{nil, []byte("z"), row(64, 2)} {
		if _, code := s.x.Put(s.begin(t), key, nil); code != api.ErrNoSpace {
			t.Errorf("%q: code %d", key, code)
		}
	}
	if _, code := s.x.Put(s.begin(t), []byte("new"), row(9, 1)); code != api.ErrNoSpace {
		t.Errorf("one byte more: code %d", code)
	}
	s.put(t, []byte("new"), row(7, 1))
	s.check(t)
	checkGets(t, s.h, s.x, s.want)
}

// TestNoSpaceDelete: 19.3 and 19.6, on a full disk each pair can be deleted, from the front, from behind, and in disorder: down to none; then all blocks are free.
func TestNoSpaceDelete(t *testing.T) {
	for _, key := range []func(int) []byte{keyOf, longOf} {
		for way := range 4 {
			s, n := filled(t, redo.Blocks+24, true, key)
			if s.h.Space().Free() > 3 {
				t.Errorf("%d are free", s.h.Space().Free())
			}
			for _, i := range orders(n)[way] {
				s.drop(t, key(i))
				s.check(t)
			}
			if s.x.Root != -1 || s.h.Space().Free() != 24 {
				t.Errorf("the root is %d, %d are free", s.x.Root, s.h.Space().Free())
			}
		}
	}
}

// TestNoSpaceOthers: 19.6, what others have of the disk is neither taken nor given, however it lies.
func TestNoSpaceOthers(t *testing.T) {
	s := made(t, redo.Blocks+40, true)
	var others []int
	for at := redo.Blocks; at < redo.Blocks+40; at += 1 + at%3 {
		if code := s.h.Space().Mark(at, 1); code != api.OK {
			t.Fatalf("code %d", code)
		}
		others = append(others, at)
		s.d.Poke(api.Poke{At: at, Bytes: row(512, uint32(at))})
	}
	taken := func(step string) {
		t.Helper()
		l := append(checkTree(t, s.h, s.x, s.want), others...)
		for at := redo.Blocks; at < s.d.Size(); at++ {
			if s.h.Space().Taken(at) != slices.Contains(l, at) {
				t.Errorf("%s: block %d is taken: %t", step, at, s.h.Space().Taken(at))
			}
		}
		for _, at := range others {
			if !bytes.Equal(s.d.Look(at), row(512, uint32(at))) {
				t.Errorf("%s: block %d was written", step, at)
			}
		}
	}
	n := 0
	for ; ; n++ {
		x := s.begin(t)
		now, code := s.x.Put(x, keyOf(n*5%64), wideOf(n))
		if code == api.ErrNoSpace {
			break
		}
		if code != api.OK {
			t.Fatalf("code %d", code)
		}
		s.commit(t, x, now, with(s.want, keyOf(n*5%64), wideOf(n)))
		taken("put")
	}
	for i := range n {
		s.drop(t, keyOf(i*5%64))
		taken("deleted")
	}
	if n < 12 || s.x.Root != -1 || s.h.Space().Free() != 40-len(others) {
		t.Errorf("%d pairs, the root is %d, %d are free", n, s.x.Root, s.h.Space().Free())
	}
}

// TestNoSpaceEach: 19.2 and 19.6, with fewer pages than an act needs, from none on, nothing is changed, whatever a place has as its code; with as many as that it is done.
func TestNoSpaceEach(t *testing.T) {
	f, x, want := grown(t, 80, func(i int) []byte { return longOf(4 * i) }, wideOf)
	most := 0
	for i := range 240 {
		key := longOf(4*(i%80) + 1 + i/80)
		for free := 0; ; free++ {
			g := f.copy()
			g.free = free
			was := g.copy()
			if free%2 == 1 {
				g.full = api.ErrDown
			}
			now, code := x.Put(g, key, wideOf(i))
			if code == api.OK {
				more := with(want, key, wideOf(i))
				if l := checkTree(t, g, now, more); len(l) != len(g.taken) || g.free != 0 {
					t.Errorf("%d blocks, %d are taken, %d are free", len(l), len(g.taken), g.free)
				}
				most = max(most, free)
				f, x, want = g, now, more
				f.epoch++
				break
			}
			if code != g.full || now != (tree.Tree{}) || len(g.wrote) != 0 || !g.same(was) {
				t.Errorf("%d pages: %v, code %d, %d stores", free, now, code, len(g.wrote))
			}
		}
	}
	if most < 4 {
		t.Errorf("at most %d pages were needed", most)
	}
}
