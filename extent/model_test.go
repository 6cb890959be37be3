package extent_test

import (
	"math/rand/v2"
	"slices"
	"testing"

	"deedbox/api"
	"deedbox/extent"
	"deedbox/redo"
)

// firstRun is where the first run of so many free blocks begins, looked for place by place; false: there is none.
func firstRun(taken []bool, n int) (int, bool) {
	for at := redo.Blocks; at+n <= len(taken); at++ {
		if !slices.Contains(taken[at:at+n], true) {
			return at, true
		}
	}
	return 0, false
}

// rows is a world, what blocks its change has, and what is to stand there when it is done.
type rows struct {
	*rand.Rand
	*world
	taken []bool
	now   []text
	keys  int
}

// size is a length by chance: short ones, such as end about a piece's end, and long ones.
func (r *rows) size() int {
	switch r.IntN(4) {
	case 0:
		return r.IntN(4)
	case 1:
		return max(0, 496*r.IntN(5)+r.IntN(3)-1)
	}
	return r.IntN(3000)
}

// act is a text that is written, or freed, in a change, against what blocks it is to have.
func (r *rows) act(t *testing.T, do func(size int) (text, api.Code), free func(extent.Run)) {
	t.Helper()
	if len(r.now) > 0 && r.IntN(5) < 2 {
		i := r.IntN(len(r.now))
		free(r.now[i].run)
		r.now = slices.Delete(slices.Clone(r.now), i, i+1)
		return
	}
	size := r.size()
	at, ok := firstRun(r.taken, blocksOf(size))
	y, code := do(size)
	if !ok {
		if code != api.ErrNoSpace || y.run != (extent.Run{}) {
			t.Fatalf("%d bytes: %v, code %d; there is no room", size, y.run, code)
		}
		return
	}
	if code != api.OK || y.run != (extent.Run{At: at, Size: size}) {
		t.Fatalf("%d bytes: %v, code %d; want block %d", size, y.run, code, at)
	}
	for i := range blocksOf(size) {
		r.taken[at+i] = true
	}
	r.now = append(r.now, y)
}

// reset has the blocks that are taken be those of the texts that are there.
func (r *rows) reset() {
	r.now, r.taken = r.texts, make([]bool, r.d.Size())
	for _, y := range r.texts {
		for i := range blocksOf(y.run.Size) {
			r.taken[y.run.At+i] = true
		}
	}
}

// change is some acts in a change, that is done, left alone, or lost.
func (r *rows) change(t *testing.T) {
	t.Helper()
	r.reset()
	x := r.begin(t)
	for range 1 + r.IntN(5) {
		r.act(t, func(size int) (text, api.Code) {
			r.keys++
			y := text{fromOf(r.keys), row(r.IntN(30), r.Uint32()), row(size, r.Uint32()), extent.Run{}}
			var code api.Code
			y.run, code = extent.Write(x, r.s, y.from, y.what, y.bytes)
			return y, code
		}, func(run extent.Run) { extent.Free(x, run) })
	}
	switch r.IntN(6) {
	case 0: // left alone
	case 1:
		r.p.Fuse(r.IntN(5), r.IntN(2) == 0)
		x.Commit(-1)
		r.lose(r.IntN(2) == 0, r.IntN(2) == 0, r.IntN(2) == 0, true)
		if a, ok := r.keeper(t).Last(); ok && a.Epoch == x.Epoch() {
			r.texts = r.now
		}
		r.open(t)
	default:
		commit(t, x)
		r.texts = r.now
	}
	r.check(t)
}

// TestRows: 20.1 to 20.4, long rows of acts by chance, on disks that have room and on such as have not, in changes that are done, left alone, or lost, against the blocks counted one by one.
func TestRows(t *testing.T) {
	for _, ideal := range kinds() {
		for seed := range uint64(6) {
			c := rand.New(rand.NewPCG(20, seed))
			r := &rows{Rand: c, world: made(t, []int{25, 28, 36, 60, 120}[seed%5], ideal)}
			for range 60 {
				r.change(t)
				if len(r.texts) == 0 {
					continue
				}
				y := r.texts[r.IntN(len(r.texts))]
				lo := r.IntN(y.run.Size + 1)
				hi := lo + r.IntN(y.run.Size+1-lo)
				seen := len(r.d.Seen())
				r.reads(t, y, lo, hi)
				if l := r.touched(seen); !slices.EqualFunc(l, covers(y.run, lo, hi), sameTouch) {
					t.Errorf("bytes %d up to %d of %v: the disk saw %v", lo, hi, y.run, l)
				}
			}
		}
	}
}

// TestSameTwice: P8, two runs of the same acts touch the disk alike, and have the same runs.
func TestSameTwice(t *testing.T) {
	run := func(ideal bool) *world {
		r := &rows{Rand: rand.New(rand.NewPCG(8, 20)), world: made(t, 60, ideal)}
		for range 40 {
			r.change(t)
		}
		return r.world
	}
	for _, ideal := range kinds() {
		a, b := run(ideal), run(ideal)
		if !slices.EqualFunc(a.d.Seen(), b.d.Seen(), sameTouch) || len(a.texts) != len(b.texts) {
			t.Errorf("ideal %t: the disk was touched otherwise", ideal)
		}
		for i := range a.texts {
			if a.texts[i].run != b.texts[i].run {
				t.Errorf("ideal %t: %v and %v", ideal, a.texts[i].run, b.texts[i].run)
			}
		}
	}
}

// TestForRealAsIdeally: P7, the same acts have the same runs, for real as ideally.
func TestForRealAsIdeally(t *testing.T) {
	var l [2][]extent.Run
	for i, ideal := range kinds() {
		r := &rows{Rand: rand.New(rand.NewPCG(7, 20)), world: made(t, 50, ideal)}
		for range 60 {
			r.change(t)
			for _, y := range r.texts {
				l[i] = append(l[i], y.run)
			}
		}
	}
	if !slices.Equal(l[0], l[1]) || len(l[0]) < 60 {
		t.Errorf("%d and %d runs, not the same", len(l[0]), len(l[1]))
	}
}
