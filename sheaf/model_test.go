package sheaf_test

import (
	"bytes"
	"slices"
	"sort"
	"testing"

	"deedbox/anchor"
	"deedbox/api"
	"deedbox/redo"
	"deedbox/sheaf"
)

// plain is a sheaf by the chapter's words, on devices of its own: lists, gone through one by one.
type plain struct {
	v         *devices
	k         *anchor.Keeper
	page, log []byte
	taken     []bool
}

// plainTx is a change of it.
type plainTx struct {
	epoch      int
	took, gave []int
	pages      []api.Image
	called     bool
}

func plainOpen(v *devices, k *anchor.Keeper) (*plain, api.Code) {
	a, ok := k.Last()
	if !ok {
		return nil, api.ErrNone
	}
	if v.d.Size() < 24 {
		return nil, api.ErrRange
	}
	m := &plain{v: v, k: k, taken: make([]bool, v.d.Size())}
	m.page, m.log = v.s.Derive(a.Master, []byte("page")), v.s.Derive(a.Master, []byte("log"))
	for at := range 24 {
		m.taken[at] = true
	}
	if a.Pending == 0 {
		return m, api.OK
	}
	l, code := redo.Read(v.d, v.s, m.log, a.Epoch, a.Pending)
	if code != api.OK {
		return nil, code
	}
	for _, x := range l {
		if _, code := v.s.Open(m.page, nonceOf(x.Page, a.Epoch), besideOf(x.Page), x.Block); code != api.OK {
			return nil, code
		}
	}
	if code := redo.Apply(v.d, l); code != api.OK {
		return nil, code
	}
	if code := k.Clean(); code != api.OK {
		return nil, code
	}
	return m, api.OK
}

func (m *plain) load(page, epoch int) ([]byte, api.Code) {
	if epoch < 0 {
		return nil, api.ErrArg
	}
	b, code := m.v.d.Read(page)
	if code != api.OK {
		return nil, code
	}
	return m.v.s.Open(m.page, nonceOf(page, epoch), besideOf(page), b)
}

// has tells whether a block behind the log is taken for a change.
func (m *plain) has(x *plainTx, at int) bool {
	return at >= 24 && at < len(m.taken) && (m.taken[at] || slices.Contains(x.took, at))
}

func (m *plain) take(x *plainTx, n int) (int, api.Code) {
	if n < 1 {
		return 0, api.ErrArg
	}
	for at := 24; at+n <= len(m.taken); at++ {
		if !slices.ContainsFunc(run(at, n), func(i int) bool { return m.has(x, i) }) {
			x.took = append(x.took, run(at, n)...)
			return at, api.OK
		}
	}
	return 0, api.ErrNoSpace
}

func (m *plain) give(x *plainTx, at, n int) {
	for _, i := range run(at, n) {
		if !m.has(x, i) {
			return
		}
	}
	x.gave = append(x.gave, run(at, n)...)
	x.pages = slices.DeleteFunc(x.pages, func(y api.Image) bool { return y.Page >= at && y.Page < at+n })
}

func (m *plain) find(x *plainTx, page int) int {
	return slices.IndexFunc(x.pages, func(y api.Image) bool { return y.Page == page })
}

func (m *plain) loadTx(x *plainTx, page, epoch int) ([]byte, api.Code) {
	if epoch != x.epoch {
		return m.load(page, epoch)
	}
	if i := m.find(x, page); i >= 0 {
		return x.pages[i].Block, api.OK
	}
	return nil, api.ErrNone
}

func (m *plain) store(x *plainTx, page int, b []byte) api.Code {
	if len(b) != 496 {
		return api.ErrSize
	}
	if !m.has(x, page) {
		return api.ErrRange
	}
	if i := m.find(x, page); i >= 0 {
		x.pages = slices.Delete(x.pages, i, i+1)
	}
	x.pages = append(x.pages, api.Image{Page: page, Block: b})
	return api.OK
}

func (m *plain) write(x *plainTx, at int, b []byte) api.Code {
	if !slices.Contains(x.took, at) {
		return api.ErrRange
	}
	return m.v.d.Write(at, b)
}

func (m *plain) commit(x *plainTx, root int) api.Code {
	if x.called {
		return api.ErrState
	}
	if len(x.pages) > 23 {
		return api.ErrFull
	}
	x.called = true
	sort.Slice(x.pages, func(i, j int) bool { return x.pages[i].Page < x.pages[j].Page })
	var l []api.Image
	for _, y := range x.pages {
		b, _ := m.v.s.Seal(m.page, nonceOf(y.Page, x.epoch), besideOf(y.Page), y.Block)
		l = append(l, api.Image{Page: y.Page, Block: b})
	}
	if code := redo.Write(m.v.d, m.v.s, m.log, x.epoch, l); code != api.OK {
		return code
	}
	if code := m.k.Commit(x.epoch, root, len(l)); code != api.OK {
		return code
	}
	for _, at := range x.took {
		m.taken[at] = true
	}
	for _, at := range x.gave {
		m.taken[at] = false
	}
	if code := redo.Apply(m.v.d, l); code != api.OK || len(l) == 0 {
		return code
	}
	return m.k.Clean()
}

// world is both: a sheaf, and one by the words; of either the last two changes.
type world struct {
	v     *devices
	h     *sheaf.Sheaf
	m     *plain
	txs   [2]*sheaf.Tx
	plain [2]*plainTx
	codes map[api.Code]int
}

func newWorld(t *testing.T, size int, ideal bool) *world {
	t.Helper()
	w := &world{codes: map[api.Code]int{}}
	w.v, w.h = formatted(t, size, ideal)
	twin := newDevices(t, size, ideal)
	k := twin.keeper(t)
	if code := k.Save(api.Anchor{Root: -1, Master: masterOf(1)}); code != api.OK {
		t.Fatalf("Save: code %d", code)
	}
	w.m, _ = plainOpen(twin, k)
	return w
}

// same tells whether both are in the same place.
func (w *world) same() bool {
	a, b := w.v, w.m.v
	if a.p.Steps() != b.p.Steps() || a.p.Down() != b.p.Down() || a.d.Loose() != b.d.Loose() || a.c.Writes() != b.c.Writes() {
		return false
	}
	if a.s.Sealed() != b.s.Sealed() || a.s.Reused() || a.s.Forged() {
		return false
	}
	x, _ := w.h.Keeper().Last()
	y, _ := w.m.k.Last()
	for at, taken := range w.m.taken {
		if w.h.Space().Taken(at) != taken || !bytes.Equal(a.d.Look(at), b.d.Look(at)) {
			return false
		}
	}
	return anchor.Same(x, y)
}

// agree counts a code, and tells whether both are the same.
func (w *world) agree(code, want api.Code) bool {
	w.codes[code]++
	return code == want
}

// act is something that is done to both, by a number; false: what is answered is not the same.
type act func(w *world, x int) bool

func beginAct(w *world, x int) bool {
	y, code := w.h.Begin()
	epoch, want := w.m.k.Give()
	if code == api.OK {
		if y.Epoch() != epoch || y.Dirty() != 0 {
			return false
		}
		w.txs = [2]*sheaf.Tx{y, w.txs[0]}
		w.plain = [2]*plainTx{{epoch: epoch}, w.plain[0]}
	}
	return w.agree(code, want) && (y != nil) == (code == api.OK)
}

// which is the last change, now and then the one ahead of it; nil, if there is none.
func (w *world) which(x int) (*sheaf.Tx, *plainTx) {
	i := 0
	if x%11 == 0 {
		i = 1
	}
	return w.txs[i], w.plain[i]
}

// within is an act of a change, if there is one; behind it both have as many pages.
func within(do func(w *world, t *sheaf.Tx, p *plainTx, x int) bool) act {
	return func(w *world, x int) bool {
		t, p := w.which(x)
		return t == nil || do(w, t, p, x) && t.Dirty() == len(p.pages) && t.Epoch() == p.epoch
	}
}

// place is a block, now and then one that there is not, or of the log.
func (w *world) place(x int) int {
	if x%13 == 0 {
		return x/13%(len(w.m.taken)+30) - 3
	}
	return 24 + x%max(len(w.m.taken)-24, 1)
}

func takeAct(w *world, t *sheaf.Tx, p *plainTx, x int) bool {
	n := x % 5
	if x%17 == 0 {
		n = x % 70
	}
	at, code := t.Take(n)
	wantAt, want := w.m.take(p, n)
	return w.agree(code, want) && at == wantAt
}

func giveAct(w *world, t *sheaf.Tx, p *plainTx, x int) bool {
	at, n := w.place(x>>4), 1+x%3
	t.Give(at, n)
	w.m.give(p, at, n)
	return true
}

func storeAct(w *world, t *sheaf.Tx, p *plainTx, x int) bool {
	page, b := w.place(x>>4), pageOf(x)
	if x%29 == 0 {
		b = b[1:]
	}
	return w.agree(t.Store(page, b), w.m.store(p, page, b))
}

// manyAct stores in all blocks of a run, which it takes first, as far as there is one.
func manyAct(w *world, t *sheaf.Tx, p *plainTx, x int) bool {
	t.Take(x % 30)
	w.m.take(p, x%30)
	for i := range x % 30 {
		if t.Store(24+i, pageOf(x+i)) != w.m.store(p, 24+i, pageOf(x+i)) {
			return false
		}
	}
	return true
}

func writeAct(w *world, t *sheaf.Tx, p *plainTx, x int) bool {
	at, b := w.place(x>>4), blockOf(x)
	if x%31 == 0 {
		b = b[:496]
	}
	return w.agree(t.Write(at, b), w.m.write(p, at, b))
}

func loadTxAct(w *world, t *sheaf.Tx, p *plainTx, x int) bool {
	page, epoch := w.place(x>>4), p.epoch-x%4
	b, code := t.Load(page, epoch)
	c, want := w.m.loadTx(p, page, epoch)
	return w.agree(code, want) && bytes.Equal(b, c)
}

func commitAct(w *world, t *sheaf.Tx, p *plainTx, x int) bool {
	root := w.place(x >> 4)
	if x%19 == 0 {
		root = 4096 + x%3
	}
	return w.agree(t.Commit(root), w.m.commit(p, root))
}

func loadAct(w *world, x int) bool {
	page, epoch := w.place(x>>4), x%20-1
	b, code := w.h.Load(page, epoch)
	c, want := w.m.load(page, epoch)
	return w.agree(code, want) && bytes.Equal(b, c)
}

func blockAct(w *world, x int) bool {
	b, code := w.h.Block(w.place(x))
	c, want := w.m.v.d.Read(w.place(x))
	return w.agree(code, want) && bytes.Equal(b, c)
}

func markAct(w *world, x int) bool {
	at := w.place(x)
	if w.h.Space().Mark(at, 1) == api.OK {
		w.m.taken[at] = true
	}
	return true
}

func fuseAct(w *world, x int) bool {
	w.v.p.Fuse(x%40, x%2 == 0)
	w.m.v.p.Fuse(x%40, x%2 == 0)
	return true
}

// backAct has the power be back, with a crash or without, and opens anew, if that can be.
func backAct(w *world, x int) bool {
	if x%4 != 0 {
		keep := bits(x>>2, w.v.d.Loose())
		w.v.d.Crash(keep)
		w.m.v.d.Crash(keep)
	}
	w.v.p.Back()
	w.m.v.p.Back()
	return x%8 == 0 || openAct(w, x)
}

func openAct(w *world, x int) bool {
	k, code := anchor.Open(w.v.c)
	l, want := anchor.Open(w.m.v.c)
	if code != api.OK || want != api.OK {
		return code == want
	}
	h, code := sheaf.Open(w.v.d, w.v.s, k)
	m, want := plainOpen(w.m.v, l)
	if code == api.OK && want == api.OK {
		w.h, w.m, w.txs, w.plain = h, m, [2]*sheaf.Tx{}, [2]*plainTx{}
	}
	return w.agree(code, want) && (h != nil) == (code == api.OK)
}

func pokeAct(w *world, x int) bool {
	p := api.Poke{At: w.place(x >> 4), Kind: x % 3, N: x % 5, Bytes: blockOf(x % 7)}
	if x%5 == 0 {
		p.At = x % 5
	}
	w.v.d.Poke(p)
	w.m.v.d.Poke(p)
	return true
}

// acts is all acts, those that come often more than once.
func acts() []act {
	l := []act{beginAct, loadAct, loadAct, blockAct, markAct, fuseAct, backAct, backAct, openAct, pokeAct}
	for _, do := range []func(w *world, t *sheaf.Tx, p *plainTx, x int) bool{takeAct, takeAct, giveAct, storeAct, storeAct, storeAct, storeAct, manyAct, writeAct, loadTxAct, loadTxAct, commitAct, commitAct} {
		l = append(l, within(do))
	}
	return l
}

// TestLongRows: 17.2 to 17.7, long rows of acts, with losses, and with somebody else, against the chapter's words behind each of them: the same answers, steps, blocks and anchors; and so P8, as the words know no map.
func TestLongRows(t *testing.T) {
	l, codes := acts(), map[api.Code]int{}
	for _, size := range []int{24, 25, 30, 60} {
		for _, ideal := range kinds() {
			for seed := range uint32(5) {
				w, s := newWorld(t, size, ideal), 977*seed+uint32(size)
				for i := range 300 {
					s = s*1664525 + 1013904223
					if do, x := l[int(s>>16)%len(l)], int(s>>6); !do(w, x) || !w.same() {
						t.Fatalf("%d blocks, ideal %t, seed %d, act %d: not as the chapter has it", size, ideal, seed, i)
					}
				}
				if !sameTouches(w.v.d.Seen(), w.m.v.d.Seen()) {
					t.Fatalf("%d blocks, ideal %t, seed %d: other things are seen", size, ideal, seed)
				}
				for code, n := range w.codes {
					codes[code] += n
				}
			}
		}
	}
	for _, code := range []api.Code{api.OK, api.ErrArg, api.ErrRange, api.ErrDown, api.ErrIntegrity, api.ErrNoSpace, api.ErrNone, api.ErrState, api.ErrFull, api.ErrSize} {
		if codes[code] == 0 {
			t.Errorf("no act answered code %d", code)
		}
	}
}
