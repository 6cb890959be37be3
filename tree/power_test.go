package tree_test

import (
	"testing"

	"deedbox/api"
	"deedbox/tree"
)

// change is an act on a tree within a change, and what it is to have then.
type change func(t *testing.T, c tree.Change, x tree.Tree, want map[string]string) (tree.Tree, map[string]string)

func putting(key, value []byte) change {
	return func(t *testing.T, c tree.Change, x tree.Tree, want map[string]string) (tree.Tree, map[string]string) {
		t.Helper()
		now, code := x.Put(c, key, value)
		if code != api.OK {
			t.Fatalf("Put of %q: code %d", key, code)
		}
		return now, with(want, key, value)
	}
}

func deleting(key []byte) change {
	return func(t *testing.T, c tree.Change, x tree.Tree, want map[string]string) (tree.Tree, map[string]string) {
		t.Helper()
		now, ok, code := x.Delete(c, key)
		if code != api.OK || !ok {
			t.Fatalf("Delete of %q: %t, code %d", key, ok, code)
		}
		return now, without(want, key)
	}
}

// both is one act behind the other, in one change.
func both(a, b change) change {
	return func(t *testing.T, c tree.Change, x tree.Tree, want map[string]string) (tree.Tree, map[string]string) {
		t.Helper()
		x, want = a(t, c, x, want)
		return b(t, c, x, want)
	}
}

// TestPower: 19.1, 19.2 and 19.3, the power going at each step of committing an act, whichever blocks are kept: behind that the tree has all of the act, or nothing of it, and no block but its own.
func TestPower(t *testing.T) {
	for n, l := range []struct {
		pairs int
		act   change
	}{
		{0, putting(keyOf(0), wideOf(0))},
		{1, deleting(keyOf(0))},
		{2, putting(keyOf(2), wideOf(2))},
		{3, deleting(keyOf(0))},
		{12, putting(keyOf(5), wideOf(99))},
		{12, putting(append(keyOf(5), 'x'), wideOf(99))},
		{12, deleting(keyOf(5))},
		{40, both(putting([]byte("a"), wideOf(1)), deleting(keyOf(20)))},
		{40, both(deleting(keyOf(39)), putting(keyOf(39), wideOf(1)))},
	} {
		for step, code := 0, api.ErrDown; code != api.OK; step++ {
			for kept := range 6 {
				s := made(t, 100, true)
				s.fill(t, l.pairs, keyOf, wideOf)
				x := s.begin(t)
				now, want := l.act(t, x, s.x, s.want)
				s.p.Fuse(step, kept%2 == 0)
				if code = x.Commit(now.Root); code != api.ErrDown && code != api.OK {
					t.Fatalf("act %d, step %d: code %d", n, step, code)
				}
				var keep []bool
				for i := range s.d.Loose() {
					keep = append(keep, kept/2 == 1 || kept/2 == 2 && i%2 == 0)
				}
				s.d.Crash(keep)
				s.p.Back()
				s.open(t)
				if a, _ := s.h.Keeper().Last(); a.Epoch == x.Epoch() {
					s.want = want
				} else if code == api.OK {
					t.Errorf("act %d, step %d: it was done, and is not there", n, step)
				}
				s.check(t)
				s.put(t, []byte("behind"), nil)
				s.check(t)
			}
		}
	}
}

// TestPowerGone: 19.1, without power each page is ErrDown, and nothing else is answered.
func TestPowerGone(t *testing.T) {
	s := made(t, 60, true)
	s.fill(t, 12, keyOf, wideOf)
	x := s.begin(t)
	s.p.Fuse(0, true)
	s.d.Flush()
	if b, ok, code := s.x.Get(s.h, keyOf(1)); code != api.ErrDown || ok || len(b) != 0 {
		t.Errorf("Get: %q, %t, code %d", b, ok, code)
	}
	if l, code := s.x.Scan(s.h, nil, 9); code != api.ErrDown || len(l) != 0 {
		t.Errorf("Scan: %d, code %d", len(l), code)
	}
	if l, code := s.x.Blocks(x); code != api.ErrDown || len(l) != 0 {
		t.Errorf("Blocks: %v, code %d", l, code)
	}
	if n, code := s.x.Height(x); code != api.ErrDown || n != 0 {
		t.Errorf("Height: %d, code %d", n, code)
	}
	if now, code := s.x.Put(x, keyOf(1), nil); code != api.ErrDown || now != (tree.Tree{}) {
		t.Errorf("Put: %v, code %d", now, code)
	}
	if now, ok, code := s.x.Delete(x, keyOf(1)); code != api.ErrDown || ok || now != (tree.Tree{}) {
		t.Errorf("Delete: %v, %t, code %d", now, ok, code)
	}
	s.p.Back()
	s.open(t)
	s.check(t)
}
