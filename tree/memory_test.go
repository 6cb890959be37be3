package tree_test

import (
	"bytes"
	"slices"
	"testing"

	"deedbox/api"
	"deedbox/tree"
)

// scribble writes over bytes, and over what lies behind their length.
func scribble(b []byte) {
	b = b[:cap(b)]
	for i := range b {
		b[i] += 13
	}
}

// hands hands bytes in with others behind them in their memory, and knows what all of that was.
type hands struct{ now, was [][]byte }

func (h *hands) in(b []byte) []byte {
	whole := append(bytes.Clone(b), row(len(h.now)%9, 70)...)
	h.now, h.was = append(h.now, whole), append(h.was, bytes.Clone(whole))
	return whole[:len(b)]
}

// stay holds all that was handed in against what it was, and writes over it.
func (h *hands) stay(t *testing.T) {
	t.Helper()
	for i := range h.now {
		if !bytes.Equal(h.now[i], h.was[i]) {
			t.Errorf("bytes %d were changed", i)
		}
		scribble(h.now[i])
	}
	h.now, h.was = nil, nil
}

// TestHandedIn: R3, keys and values that are handed in are neither changed nor kept, nor is what lies behind them read.
func TestHandedIn(t *testing.T) {
	for _, order := range orders(40) {
		s, h := made(t, 100, true), &hands{}
		x := s.begin(t)
		now, want := s.x, s.want
		for n, i := range append(order, order...) {
			key, value := longOf(i), row(150-(i+n)%100, uint32(n))
			var code api.Code
			if now, code = now.Put(x, h.in(key), h.in(value)); code != api.OK {
				t.Fatalf("code %d", code)
			}
			want = with(want, key, value)
			h.stay(t)
			now.Get(x, h.in(key))
			now.Scan(x, h.in(key), 5)
			h.stay(t)
			if n%5 == 4 {
				if now, _, code = now.Delete(x, h.in(key)); code != api.OK {
					t.Fatalf("code %d", code)
				}
				want = without(want, key)
				h.stay(t)
			}
			checkTree(t, x, now, want)
		}
		if x.Dirty() > 23 {
			continue
		}
		s.commit(t, x, now, want)
		s.check(t)
	}
}

// TestHandedOut: R3, answers are new memory: who writes over them, and over what lies behind them, changes neither the tree nor other answers.
func TestHandedOut(t *testing.T) {
	f, x, want := grown(t, 40, longOf, wideOf)
	for i := range 40 {
		a, _, _ := x.Get(f, longOf(i))
		b, _, _ := x.Get(f, longOf(i))
		scribble(a)
		if !bytes.Equal(b, wideOf(i)) {
			t.Errorf("pair %d: one answer has memory of another one", i)
		}
	}
	l, _ := x.Scan(f, nil, 99)
	more, _ := x.Scan(f, nil, 99)
	for i := range l {
		scribble(l[i].Key)
		if !samePairs(l[i+1:], more[i+1:]) || !bytes.Equal(l[i].Value, more[i].Value) {
			t.Errorf("pair %d: its key has memory of others", i)
		}
		scribble(l[i].Value)
		if !samePairs(l[i+1:], more[i+1:]) {
			t.Errorf("pair %d: its value has memory of others", i)
		}
	}
	if !samePairs(more, pairsOf(want)) {
		t.Error("one answer has memory of another one")
	}
	blocks, _ := x.Blocks(f)
	again, _ := x.Blocks(f)
	for i := range blocks[:cap(blocks)] {
		blocks[:cap(blocks)][i] = -1
	}
	if again[0] != x.Root {
		t.Error("one answer has memory of another one")
	}
	checkTree(t, f, x, want)
}

// lender is pages whose bytes are lent, not copied: as they are loaded, so they are to stay; what is stored is written over behind that.
type lender struct {
	*fake
	lent map[int]stored
}

func (l *lender) Load(page, epoch int) ([]byte, api.Code) {
	b, code := l.fake.Load(page, epoch)
	if code == api.OK {
		l.lent[len(l.lent)] = stored{page, b}
	}
	return b, code
}

func (l *lender) Store(page int, b []byte) api.Code {
	code := l.fake.Store(page, b)
	scribble(b)
	return code
}

// TestLent: R3, pages that are loaded are not written to, and what was answered shares nothing with them; what was stored is not read once more.
func TestLent(t *testing.T) {
	f, x, want := grown(t, 40, longOf, wideOf)
	l := &lender{f, map[int]stored{}}
	for i := range 40 {
		var code api.Code
		key := longOf(i * 7 % 50)
		if i%3 == 0 {
			var ok bool
			if x, ok, code = x.Delete(l, key); code == api.OK && ok {
				delete(want, string(key))
			}
		} else if x, code = x.Put(l, key, row(i, 4)); code == api.OK {
			want[string(key)] = string(row(i, 4))
		}
		if code != api.OK {
			t.Fatalf("code %d", code)
		}
		got, _ := x.Scan(l, nil, 99)
		for _, s := range l.lent {
			if now, ok := f.pages[s.epoch]; ok && now.epoch != f.epoch && !bytes.Equal(now.b, s.b) {
				t.Errorf("page %d was written to as it was loaded", s.epoch)
			}
			scribble(s.b)
		}
		clear(l.lent)
		if !samePairs(got, pairsOf(want)) {
			t.Error("an answer has memory of a page")
		}
		f.epoch++
		checkTree(t, f, x, want)
	}
}

// TestSameTwice: P8, two runs of the same acts have the same trees, on the same pages, and touch them alike.
func TestSameTwice(t *testing.T) {
	run := func() (*fake, tree.Tree) {
		f, x, _ := grown(t, 90, longOf, wideOf)
		for i := range 60 {
			x, _, _ = x.Delete(f, longOf(i*31%90))
			x, _ = x.Put(f, keyOf(i), wideOf(i))
			f.epoch++
		}
		return f, x
	}
	f, x := run()
	for range 3 {
		g, y := run()
		if x != y || !f.same(g) {
			t.Fatalf("%v and %v", x, y)
		}
		if !slices.Equal(f.loaded, g.loaded) || !slices.Equal(f.wrote, g.wrote) || !slices.Equal(f.gave, g.gave) {
			t.Fatal("pages are touched in another order")
		}
	}
}
