package tree_test

import (
	"bytes"
	"maps"
	"slices"
	"testing"

	"deedbox/api"
	"deedbox/node"
	"deedbox/tree"
)

// fake is pages in memory, of a change that goes on: each is there as it was stored last, of that epoch alone. Pages can be had that can't be loaded.
type fake struct {
	epoch  int
	pages  map[int]stored
	taken  map[int]bool
	free   int
	bad    map[int]api.Code
	loaded []int
	gave   []int
	wrote  []int
	full   api.Code
	broken int
}

type stored struct {
	epoch int
	b     []byte
}

// newFake is a fake with so many pages that can be taken, and whose next store that is not done is none.
func newFake(free int) *fake {
	return &fake{epoch: 1, pages: map[int]stored{}, taken: map[int]bool{}, free: free, bad: map[int]api.Code{}, full: api.ErrNoSpace, broken: -1}
}

func (f *fake) Load(page, epoch int) ([]byte, api.Code) {
	f.loaded = append(f.loaded, page)
	if code, ok := f.bad[page]; ok {
		return nil, code
	}
	l, ok := f.pages[page]
	if !ok || l.epoch != epoch {
		return nil, api.ErrIntegrity
	}
	return bytes.Clone(l.b), api.OK
}

func (f *fake) Epoch() int { return f.epoch }

func (f *fake) Take(n int) (int, api.Code) {
	if n != 1 || f.free == 0 {
		return 0, f.full
	}
	f.free--
	page := 0
	for f.taken[page] {
		page++
	}
	f.taken[page] = true
	return page, api.OK
}

func (f *fake) Give(at, n int) {
	for i := range n {
		delete(f.pages, at+i)
		delete(f.taken, at+i)
		f.gave = append(f.gave, at+i)
		f.free++
	}
}

func (f *fake) Store(page int, b []byte) api.Code {
	if !f.taken[page] || len(b) != api.Room {
		return api.ErrRange
	}
	if len(f.wrote) == f.broken {
		return api.ErrDown
	}
	f.wrote = append(f.wrote, page)
	f.pages[page] = stored{f.epoch, bytes.Clone(b)}
	return api.OK
}

// copy is the same, whatever is done to the other one.
func (f *fake) copy() *fake {
	c := newFake(f.free)
	c.epoch, c.pages, c.taken, c.bad = f.epoch, maps.Clone(f.pages), maps.Clone(f.taken), maps.Clone(f.bad)
	return c
}

// same tells whether pages and blocks are as they are in another one.
func (f *fake) same(g *fake) bool {
	return f.free == g.free && maps.Equal(f.taken, g.taken) && maps.EqualFunc(f.pages, g.pages, func(a, b stored) bool {
		return a.epoch == b.epoch && bytes.Equal(a.b, b.b)
	})
}

// lay has a node stand on a page, as nobody's act: of epoch 1.
func (f *fake) lay(t *testing.T, page int, n api.Node) {
	t.Helper()
	b, code := node.Put(n)
	if code != api.OK {
		t.Fatalf("page %d: code %d", page, code)
	}
	f.taken[page] = true
	f.pages[page] = stored{1, b}
}

// grown is a fake with a tree of so many pairs, each of a change of its own, and what it is to have.
func grown(t *testing.T, n int, key, value func(int) []byte) (*fake, tree.Tree, map[string]string) {
	t.Helper()
	f, x, want := newFake(4096), tree.Tree{Root: -1}, map[string]string{}
	for i := range n {
		var code api.Code
		if x, code = x.Put(f, key(i), value(i)); code != api.OK {
			t.Fatalf("code %d", code)
		}
		want[string(key(i))] = string(value(i))
		f.epoch++
	}
	f.loaded, f.gave, f.wrote = nil, nil, nil
	return f, x, want
}

// TestFake: 19.1 to 19.5, a tree over pages that are no sheaf's: it knows of which epoch each of its pages is, and has all that are taken.
func TestFake(t *testing.T) {
	f, x, want := grown(t, 300, longOf, wideOf)
	for i := range 300 {
		if l := checkTree(t, f, x, want); !slices.Equal(l, slices.Sorted(maps.Keys(f.taken))) {
			t.Fatalf("the tree has %d blocks; %d are taken", len(l), len(f.taken))
		}
		key := longOf(i * 77 % 300)
		checkGet(t, f, x, want, key)
		var ok bool
		var code api.Code
		if x, ok, code = x.Delete(f, key); !ok || code != api.OK {
			t.Fatalf("%t, code %d", ok, code)
		}
		delete(want, string(key))
		checkGet(t, f, x, want, key)
		f.epoch++
	}
	if x.Root != -1 || len(f.taken) != 0 || f.free != 4096 {
		t.Errorf("the root is %d, %d blocks are taken", x.Root, len(f.taken))
	}
}
