package tree_test

import (
	"bytes"
	"math/rand/v2"
	"testing"

	"deedbox/api"
	"deedbox/tree"
)

// chance is keys and values by chance, of several makes.
type chance struct {
	*rand.Rand
	make int
}

func (r chance) key() []byte {
	switch r.make {
	case 0:
		return row(r.IntN(3), uint32(r.IntN(40)))
	case 1:
		return longOf(r.IntN(60))
	case 2:
		return bytes.Repeat([]byte{byte(r.IntN(3))}, r.IntN(65))
	}
	return row([]int{0, 1, 5, 30, 64}[r.IntN(5)], uint32(r.IntN(30)))
}

func (r chance) value() []byte {
	return row([]int{0, 3, 40, 159, 160, r.IntN(161)}[r.IntN(6)], r.Uint32())
}

// acted is a tree within a change behind a few acts, and what it is to have; false, if there was no page for one.
func (r chance) acted(t *testing.T, s *store, x tree.Change) (tree.Tree, map[string]string, bool) {
	t.Helper()
	now, want := s.x, s.want
	for range 1 + r.IntN(3) {
		key, value := r.key(), r.value()
		if r.IntN(9) < 4 {
			_, there := want[string(key)]
			next, ok, code := now.Delete(x, key)
			if code != api.OK || ok != there || !there && next != now {
				t.Fatalf("Delete of %q: %t, code %d; want %t", key, ok, code, there)
			}
			now, want = next, without(want, key)
			continue
		}
		next, code := now.Put(x, key, value)
		if code == api.ErrNoSpace {
			checkTree(t, x, now, want)
			return now, want, false
		}
		if code != api.OK {
			t.Fatalf("Put of %q: code %d", key, code)
		}
		now, want = next, with(want, key, value)
	}
	return now, want, true
}

// TestRows: 19.1 to 19.6, long rows of acts by chance, on disks that have room and on such as have not, in changes that are done, left alone, or lost, against a map.
func TestRows(t *testing.T) {
	for make := range 4 {
		for seed := range uint64(4) {
			r := chance{rand.New(rand.NewPCG(19, seed)), make}
			s := made(t, []int{26, 30, 45, 200}[r.IntN(4)], seed > 0)
			for range 100 {
				x := s.begin(t)
				now, want, done := r.acted(t, s, x)
				switch {
				case now == s.x || !done && r.IntN(2) == 0 || r.IntN(6) == 0: // left alone
				case r.IntN(8) == 0:
					s.p.Fuse(r.IntN(2*x.Dirty()+8), r.IntN(2) == 0)
					x.Commit(now.Root)
					s.d.Crash([]bool{r.IntN(2) == 0, r.IntN(2) == 0, r.IntN(2) == 0, true})
					s.p.Back()
					s.open(t)
					if a, _ := s.h.Keeper().Last(); a.Epoch == x.Epoch() {
						s.want = want
					}
				default:
					s.commit(t, x, now, want)
				}
				s.check(t)
				checkGet(t, s.h, s.x, s.want, r.key())
				checkScan(t, s.h, s.x, pairsOf(s.want), r.key(), r.IntN(9)-1)
			}
			checkGets(t, s.h, s.x, s.want)
		}
	}
}

// TestManyPairs: 19.2 to 19.5, thousands of pairs, put and deleted in disorder, on pages in memory.
func TestManyPairs(t *testing.T) {
	r := rand.New(rand.NewPCG(5, 19))
	f, x, want := newFake(4096), tree.Tree{Root: -1}, map[string]string{}
	for i := range 7000 {
		key, value := append(bytes.Repeat([]byte{'m'}, 50), row(2, uint32(r.IntN(2000)))...), row(r.IntN(161), uint32(i))
		var code api.Code
		var ok bool
		if _, there := want[string(key)]; there && r.IntN(2) == 0 {
			x, ok, code = x.Delete(f, key)
			delete(want, string(key))
		} else {
			x, code = x.Put(f, key, value)
			ok, want[string(key)] = true, string(value)
		}
		if code != api.OK || !ok {
			t.Fatalf("act %d: %t, code %d", i, ok, code)
		}
		f.epoch++
		if f.loaded = nil; i%1000 == 999 {
			if l := checkTree(t, f, x, want); len(l) != len(f.taken) {
				t.Fatalf("the tree has %d blocks; %d are taken", len(l), len(f.taken))
			}
		}
	}
	checkGets(t, f, x, want)
	if len(want) < 800 {
		t.Errorf("just %d pairs", len(want))
	}
}
