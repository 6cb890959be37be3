package tree_test

import (
	"maps"
	"slices"
	"testing"

	"deedbox/api"
	"deedbox/node"
	"deedbox/tree"
)

// act is a call, and what it answers, told as one thing that can be held against another one.
type act struct {
	name string
	do   func(f *fake, x tree.Tree) (any, bool, api.Code)
}

type lists struct{ of string }

func told(pairs []api.Pair, blocks []int) lists {
	l := lists{}
	for _, p := range pairs {
		l.of += string(p.Key) + "=" + string(p.Value) + ";"
	}
	for _, at := range blocks {
		l.of += string(rune(at)) + ";"
	}
	return l
}

// acts is each call, on a key of a number, whose answers are zero values beside a code.
func acts(i int) []act {
	return []act{
		{"Get", func(f *fake, x tree.Tree) (any, bool, api.Code) {
			b, ok, code := x.Get(f, longOf(i))
			return string(b), b == nil && !ok, code
		}},
		{"Scan", func(f *fake, x tree.Tree) (any, bool, api.Code) {
			l, code := x.Scan(f, longOf(i), 5)
			return told(l, nil), len(l) == 0, code
		}},
		{"Blocks", func(f *fake, x tree.Tree) (any, bool, api.Code) {
			l, code := x.Blocks(f)
			return told(nil, l), len(l) == 0, code
		}},
		{"Height", func(f *fake, x tree.Tree) (any, bool, api.Code) {
			n, code := x.Height(f)
			return n, n == 0, code
		}},
		{"Put", func(f *fake, x tree.Tree) (any, bool, api.Code) {
			now, code := x.Put(f, longOf(i), wideOf(i))
			return now, now == tree.Tree{}, code
		}},
		{"Put of less", func(f *fake, x tree.Tree) (any, bool, api.Code) {
			now, code := x.Put(f, longOf(i), nil)
			return now, now == tree.Tree{}, code
		}},
		{"Delete", func(f *fake, x tree.Tree) (any, bool, api.Code) {
			now, ok, code := x.Delete(f, longOf(i))
			return now, now == tree.Tree{} && !ok, code
		}},
	}
}

// TestCodes: 19.1, each page of a tree that can't be loaded, for each call on each key: the page's code, and nothing else, and no page is stored, or stays taken; else, if the page is not needed, the answer is as ever.
func TestCodes(t *testing.T) {
	f, x, _ := grown(t, 28, func(i int) []byte { return longOf(2 * i) }, wideOf)
	pages := slices.Sorted(maps.Keys(f.taken))
	codes := []api.Code{api.ErrIntegrity, api.ErrDown, api.ErrRange, api.Code(77)}
	needed := map[string]int{}
	for i := range 57 {
		for _, a := range acts(i) {
			g := f.copy()
			want, _, code := a.do(g, x)
			if code != api.OK {
				t.Fatalf("%s of %d: code %d", a.name, i, code)
			}
			asked := g.loaded
			for n, page := range pages {
				bad := f.copy()
				bad.bad[page] = codes[(i+n)%len(codes)]
				got, zero, code := a.do(bad, x)
				if !slices.Contains(asked, page) {
					if code != api.OK || got != want {
						t.Errorf("%s of %d, page %d not loaded: code %d", a.name, i, page, code)
					}
					continue
				}
				needed[a.name]++
				if code != bad.bad[page] || !zero || len(bad.wrote) != 0 || !bad.same(f) {
					t.Errorf("%s of %d, page %d: %v, code %d, %d stores", a.name, i, page, got, code, len(bad.wrote))
				}
			}
		}
	}
	for _, a := range acts(0) {
		if needed[a.name] < 3*57 {
			t.Errorf("%s loads %d pages", a.name, needed[a.name])
		}
	}
}

// TestCodesFirst: 19.1 and R6, of two pages that can't be loaded the code is that of the one that is met first: the root's.
func TestCodesFirst(t *testing.T) {
	f, x, _ := grown(t, 40, longOf, wideOf)
	for page := range f.taken {
		f.bad[page] = api.ErrDown
	}
	f.bad[x.Root] = api.ErrIntegrity
	for _, a := range acts(7) {
		if got, zero, code := a.do(f.copy(), x); code != api.ErrIntegrity || !zero {
			t.Errorf("%s: %v, code %d", a.name, got, code)
		}
	}
}

// TestCodesOfLast: 19.1, where a leaf goes, and one kid alone is left that can't be loaded: its code, and nothing is done.
func TestCodesOfLast(t *testing.T) {
	f, x := lone(t, leafOf("a"), leafOf("b"))
	f.bad[2] = api.ErrDown
	was := f.copy()
	if now, ok, code := x.Delete(f, []byte("a")); code != api.ErrDown || ok || now != (tree.Tree{}) || len(f.wrote) != 0 || !f.same(was) {
		t.Errorf("%v, %t, code %d, %d stores", now, ok, code, len(f.wrote))
	}
}

// TestCodesOfEpoch: 19.1 and 19.2, an epoch that no node can tell is a code, and nothing is stored, nor stays taken.
func TestCodesOfEpoch(t *testing.T) {
	f, x, _ := grown(t, 40, longOf, wideOf)
	f.epoch = api.MaxNum + 1
	was := f.copy()
	for _, a := range acts(7)[4:] {
		if got, zero, code := a.do(f, x); code != api.ErrRange || !zero || len(f.wrote) != 0 || !f.same(was) {
			t.Errorf("%s: %v, code %d, %d stores", a.name, got, code, len(f.wrote))
		}
	}
	if now, code := x.Put(f, append(longOf(7)[:63:63], 255), wideOf(1)); code != api.ErrRange || now != (tree.Tree{}) || !f.same(was) {
		t.Errorf("%v, code %d", now, code)
	}
	f.epoch = api.MaxNum
	x, code := x.Put(f, longOf(7), nil)
	if b, ok, wrong := x.Get(f, longOf(7)); code != api.OK || wrong != api.OK || !ok || len(b) != 0 || x.Epoch != api.MaxNum {
		t.Errorf("code %d, %v: %q, %t, code %d", code, x, b, ok, wrong)
	}
}

// TestCodesOfStore: 19.1, a store that is not done is the act's code, and nothing else is answered.
func TestCodesOfStore(t *testing.T) {
	f, x, _ := grown(t, 40, longOf, wideOf)
	for _, a := range acts(7)[4:] {
		for n := range 3 {
			g := f.copy()
			g.broken = n
			if got, zero, code := a.do(g, x); code != api.ErrDown || !zero {
				t.Errorf("%s, store %d: %v, code %d", a.name, n, got, code)
			}
		}
	}
}

// TestNoNodes: 19.1 and P0, pages that are no nodes, of each wrong kind, and nodes that lead nowhere: each call is a code, and nothing else.
func TestNoNodes(t *testing.T) {
	whole := make([]byte, api.Room)
	strange := append([]byte{2}, whole[1:]...)
	more := append([]byte{1, 0, 9}, whole[3:]...)
	some := append([]byte{0, 255, 255}, whole[3:]...)
	for i, b := range [][]byte{nil, whole[:495], append([]byte{1}, whole...), strange, more, some, row(496, 3), whole} {
		for _, deep := range []int{0, 1} {
			f, x := lone(t, leafOf("a"), leafOf("b"))
			if _, code := node.Get(b); code == api.OK && i != 7 {
				t.Fatalf("page %d is a node", i)
			}
			f.pages[deep] = stored{1, b}
			was := f.copy()
			for _, a := range acts(0) {
				if a.name == "Scan" && deep == 1 { // it begins behind that page
					continue
				}
				x := x
				if deep == 1 {
					x = tree.Tree{Root: 1, Epoch: 1}
				}
				if got, zero, code := a.do(f, x); code == api.OK || !zero || !f.same(was) {
					t.Errorf("page %d, %d deep, %s: %v, code %d", i, deep, a.name, got, code)
				}
			}
		}
	}
}

// TestRings: P0, pages that lead in a ring, or to one page twice, as no tree has them: each call ends.
func TestRings(t *testing.T) {
	ring := func(kids ...int) api.Node {
		n := api.Node{}
		for i, page := range kids {
			k := api.Kid{Page: page, Epoch: 1}
			if i > 0 {
				k.Key = longOf(i)
			}
			n.Kids = append(n.Kids, k)
		}
		return n
	}
	for i, l := range [][]api.Node{
		{ring(0)}, {ring(0, 0)}, {ring(0, 0, 0, 0, 0, 0, 0)}, {ring(1), ring(0)}, {ring(1, 1), ring(0, 0)}, {ring(1, 2), ring(1, 2), ring(2, 1)},
		{ring(1), ring(2), ring(3), ring(4), ring(5), ring(6), ring(7), ring(8), leafOf("a")},
	} {
		f := newFake(20)
		for page, n := range l {
			f.lay(t, page, n)
		}
		f.epoch = 2
		for _, a := range acts(3) {
			g := f.copy()
			got, zero, code := a.do(g, tree.Tree{Root: 0, Epoch: 1})
			if code == api.OK && (a.name != "Scan" && a.name != "Blocks" || i < 6) || code != api.OK && (!zero || !g.same(f)) {
				t.Errorf("ring %d, %s: %v, code %d", i, a.name, got, code)
			}
		}
	}
	// The way to the pair that goes is none of the ring; what is left of the root is.
	f, x := lone(t, leafOf("a"), ring(2))
	if now, ok, code := x.Delete(f, []byte("a")); code == api.OK && !ok || code != api.OK && now != (tree.Tree{}) {
		t.Errorf("%v, %t, code %d", now, ok, code)
	}
	// Twice the same leaf.
	f, x = lone(t, leafOf("a"), ring(1, 1))
	if l, code := x.Blocks(f); code != api.ErrForm || len(l) != 0 {
		t.Errorf("%v, code %d", l, code)
	}
}

// TestNothing: P0, calls without pages answer a code, instead of panicking; of what is wrong with a pair it is told ahead of that.
func TestNothing(t *testing.T) {
	for _, x := range []tree.Tree{{Root: 3, Epoch: 1}, {}} {
		if b, ok, code := x.Get(nil, nil); code != api.ErrArg || ok || len(b) != 0 {
			t.Errorf("Get: code %d", code)
		}
		if l, code := x.Scan(nil, nil, 1); code != api.ErrArg || len(l) != 0 {
			t.Errorf("Scan: code %d", code)
		}
		if l, code := x.Blocks(nil); code != api.ErrArg || len(l) != 0 {
			t.Errorf("Blocks: code %d", code)
		}
		if n, code := x.Height(nil); code != api.ErrArg || n != 0 {
			t.Errorf("Height: code %d", code)
		}
		if now, ok, code := x.Delete(nil, nil); code != api.ErrArg || ok || now != (tree.Tree{}) {
			t.Errorf("Delete: code %d", code)
		}
	}
	for _, x := range []tree.Tree{{Root: 3, Epoch: 1}, {}, {Root: -1}} {
		if now, code := x.Put(nil, nil, nil); code != api.ErrArg || now != (tree.Tree{}) {
			t.Errorf("Put: code %d", code)
		}
		if now, code := x.Put(nil, row(65, 1), nil); code != api.ErrSize || now != (tree.Tree{}) {
			t.Errorf("Put: code %d", code)
		}
	}
}
