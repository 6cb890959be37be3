package tree_test

import (
	"bytes"
	"math/rand/v2"
	"slices"
	"testing"

	"deedbox/api"
	"deedbox/redo"
	"deedbox/tree"
)

// asIs holds each call on a tree against what it is to have: each answer is that, or ErrIntegrity, and nothing else; how many were that.
func asIs(t *testing.T, s *store, keys [][]byte) (right int) {
	t.Helper()
	pairs := pairsOf(s.want)
	judge := func(ok, zero bool, code api.Code) {
		t.Helper()
		if !ok && (code != api.ErrIntegrity || !zero) {
			t.Errorf("neither right nor refused: code %d", code)
		}
		if ok {
			right++
		}
	}
	for _, key := range keys {
		value, there := s.want[string(key)]
		b, ok, code := s.x.Get(s.h, key)
		judge(code == api.OK && ok == there && string(b) == value, !ok && len(b) == 0, code)
	}
	l, code := s.x.Scan(s.h, nil, len(pairs)+1)
	judge(code == api.OK && samePairs(l, pairs), len(l) == 0, code)
	l, code = s.x.Scan(s.h, pairs[len(pairs)/2].Key, 3)
	judge(code == api.OK && samePairs(l, pairs[len(pairs)/2:][:3]), len(l) == 0, code)
	at, code := s.x.Blocks(s.h)
	if slices.Sort(at); code == api.OK {
		for i, page := range slices.Concat(at, []int{s.d.Size()}) {
			if i > 0 && at[i-1] >= page || page < s.d.Size() && !s.h.Space().Taken(page) {
				t.Errorf("Blocks: %v", at)
			}
		}
	}
	judge(code == api.OK && len(at) == s.d.Size()-redo.Blocks-s.h.Space().Free(), len(at) == 0, code)
	n, code := s.x.Height(s.h)
	judge(code == api.OK && n == 3, n == 0, code)
	return right
}

// changesAsIs puts and deletes each of some keys, each in a change that is not committed: within it the tree is as it should be then, or ErrIntegrity.
func changesAsIs(t *testing.T, s *store, keys [][]byte) {
	t.Helper()
	for i, key := range keys {
		x := s.begin(t)
		now, code := s.x.Put(x, key, row(i%100, 4))
		if code == api.OK {
			inChange(t, x, now, with(s.want, key, row(i%100, 4)))
		} else if code != api.ErrIntegrity || now != (tree.Tree{}) || x.Dirty() != 0 {
			t.Errorf("Put of %q: %v, code %d, %d pages", key, now, code, x.Dirty())
		}
		_, there := s.want[string(key)]
		x = s.begin(t)
		now, ok, code := s.x.Delete(x, key)
		if code == api.OK && ok == there {
			inChange(t, x, now, without(s.want, key))
		} else if code != api.ErrIntegrity || ok || now != (tree.Tree{}) || x.Dirty() != 0 {
			t.Errorf("Delete of %q: %v, %t, code %d, %d pages", key, now, ok, code, x.Dirty())
		}
	}
}

// inChange holds all pairs within a change against what they are to be, one by one.
func inChange(t *testing.T, p tree.Pages, x tree.Tree, want map[string]string) {
	t.Helper()
	for _, pair := range pairsOf(want) {
		if b, ok, code := x.Get(p, pair.Key); code != api.ErrIntegrity && (code != api.OK || !ok || !bytes.Equal(b, pair.Value)) {
			t.Errorf("Get of %q: %q, %t, code %d", pair.Key, b, ok, code)
		}
	}
	if l, code := x.Scan(p, nil, len(want)+1); code != api.ErrIntegrity && (code != api.OK || !samePairs(l, pairsOf(want))) {
		t.Errorf("Scan: %d pairs, code %d", len(l), code)
	}
}

// old is a store with a tree of three levels, each of whose pages was written several times, and some keys, of which some have pairs.
func old(t *testing.T) (*store, [][]byte) {
	t.Helper()
	s := made(t, 64, true)
	s.fill(t, 24, longOf, wideOf)
	for round := range 3 {
		for i := range 24 {
			s.put(t, longOf(i), row(150-i, uint32(round)))
		}
	}
	s.drop(t, longOf(7))
	s.check(t)
	return s, [][]byte{longOf(0), longOf(6), longOf(7), longOf(8), longOf(15), longOf(23), nil, longOf(99)}
}

// TestSomebodyElse: 19.6, whatever somebody else does to any block: put back what it was before, copy another one there, write anything there: each answer is as it should be, or ErrIntegrity.
func TestSomebodyElse(t *testing.T) {
	s, keys := old(t)
	pages, _ := s.x.Blocks(s.h)
	if n := asIs(t, s, keys); n != len(keys)+4 || len(pages) < 12 {
		t.Fatalf("%d answers are right, of %d pages", n, len(pages))
	}
	less := 0
	for _, at := range pages {
		was := s.d.Look(at)
		var pokes []api.Poke
		for n := 1; n < 6; n++ {
			pokes = append(pokes, api.Poke{At: at, Kind: api.PokeBack, N: n})
		}
		for _, from := range append([]int{0, 1, 2, 3, 63}, pages...) {
			pokes = append(pokes, api.Poke{At: at, Kind: api.PokeCopy, N: from})
		}
		turned := bytes.Clone(was)
		turned[at%512] ^= 1 << (at % 8)
		pokes = append(pokes, api.Poke{At: at, Bytes: turned}, api.Poke{At: at}, api.Poke{At: at, Bytes: row(512, 3)}, api.Poke{At: at, Bytes: was[:511]})
		for i, x := range pokes {
			s.d.Poke(x)
			if asIs(t, s, keys) < len(keys)+4 {
				less++
			}
			if i%7 == at%7 {
				changesAsIs(t, s, keys)
			}
			s.d.Poke(api.Poke{At: at, Bytes: was})
		}
		if asIs(t, s, keys) != len(keys)+4 {
			t.Fatalf("block %d put as it was: something is wrong", at)
		}
	}
	if less < 15*len(pages) {
		t.Errorf("just %d pokes were seen", less)
	}
	s.check(t)
}

// TestOldDisk: 19.6, the whole disk put back as it was: nothing can be loaded, nor is anything changed.
func TestOldDisk(t *testing.T) {
	s, keys := old(t)
	var was [][]byte
	for at := range s.d.Size() {
		was = append(was, s.d.Look(at))
	}
	s.put(t, longOf(7), nil)
	for at, b := range was {
		s.d.Poke(api.Poke{At: at, Bytes: b})
	}
	if n := asIs(t, s, keys); n != 0 {
		t.Errorf("%d answers", n)
	}
	refuses(t, s, s.x, api.ErrIntegrity)
	changesAsIs(t, s, keys)
}

// TestSomebodyElseOnTheWay: 19.6, long rows of acts, somebody else changing blocks between them: each is done as it should be, or ErrIntegrity, and then it changes nothing.
func TestSomebodyElseOnTheWay(t *testing.T) {
	done, refused := 0, 0
	for seed := range uint64(4) {
		r := rand.New(rand.NewPCG(1906, seed))
		s := made(t, 120, true)
		for range 300 {
			at := redo.Blocks + r.IntN(30)
			was := s.d.Look(at)
			s.d.Poke([]api.Poke{{At: at, Bytes: row(512, r.Uint32())}, {At: at, Kind: api.PokeBack, N: 1 + r.IntN(3)}, {At: at, Kind: api.PokeCopy, N: redo.Blocks + r.IntN(30)}}[r.IntN(3)])
			now := s.d.Look(at)
			key, value := longOf(r.IntN(40)), row(r.IntN(161), r.Uint32())
			x := s.begin(t)
			var next tree.Tree
			var code api.Code
			want := with(s.want, key, value)
			if r.IntN(5) < 2 {
				var ok bool
				next, ok, code = s.x.Delete(x, key)
				want = without(s.want, key)
				if _, there := s.want[string(key)]; code == api.OK && !there {
					if ok || next != s.x {
						t.Fatalf("%q: %t, %v", key, ok, next)
					}
					code = api.ErrNone
				}
			} else {
				next, code = s.x.Put(x, key, value)
			}
			switch code {
			case api.OK:
				s.commit(t, x, next, want)
				done++
			case api.ErrIntegrity:
				refused++
			case api.ErrNone:
			default:
				t.Fatalf("code %d", code)
			}
			inChange(t, s.h, s.x, s.want)
			if bytes.Equal(s.d.Look(at), now) {
				s.d.Poke(api.Poke{At: at, Bytes: was})
			}
		}
		s.check(t)
	}
	if done < 300 || refused < 60 {
		t.Errorf("%d were done, %d refused", done, refused)
	}
}

// TestNotSeen: 19.6 and P3, two runs that are the same but for the values' bytes: the disk is read and written alike.
func TestNotSeen(t *testing.T) {
	run := func(seed uint32) []api.Touch {
		s := made(t, 120, true)
		r := rand.New(rand.NewPCG(3, 19))
		for i := range 200 {
			key := longOf(r.IntN(40))
			if _, there := s.want[string(key)]; there && i%3 == 0 {
				s.drop(t, key)
			} else {
				s.put(t, key, row(r.IntN(161), seed+uint32(i)))
			}
			s.x.Get(s.h, key)
			s.x.Scan(s.h, key, 3)
		}
		return s.d.Seen()
	}
	same := func(a, b api.Touch) bool {
		return a.Kind == b.Kind && a.At == b.At && bytes.Equal(a.Bytes, b.Bytes)
	}
	a := run(1)
	if !slices.EqualFunc(a, run(7000), same) || len(a) < 2000 {
		t.Errorf("the disk was touched otherwise; %d times", len(a))
	}
}
