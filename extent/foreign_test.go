package extent_test

import (
	"bytes"
	"math/rand/v2"
	"slices"
	"testing"

	"deedbox/api"
	"deedbox/extent"
	"deedbox/redo"
)

// asIs holds each read of each text against what it is to be: its bytes, or ErrIntegrity, and nothing else; how many were its bytes, and how many not.
func (w *world) asIs(t *testing.T) (right, refused int) {
	t.Helper()
	for _, y := range w.texts {
		size := y.run.Size
		for _, part := range [][2]int{{0, size}, {0, min(size, 1)}, {min(size, 496), size}, {size / 3, size/3*2 + 1}, {max(size-1, 0), size}} {
			if part[0] > part[1] || part[1] > size || size > 0 && part[0] == part[1] {
				continue
			}
			b, code := w.read(y, part[0], part[1])
			switch {
			case code == api.OK && bytes.Equal(b, y.bytes[part[0]:part[1]]):
				right++
			case code == api.ErrIntegrity && b == nil:
				refused++
			default:
				t.Errorf("bytes %d up to %d of %v: %d bytes, code %d", part[0], part[1], y.run, len(b), code)
			}
		}
	}
	return right, refused
}

// old is texts, ideally sealed, each under a key of its own, on blocks each of which was that of others before, of the same lengths, and of the same what.
func old(t *testing.T) *world {
	t.Helper()
	w := made(t, 44, true)
	sizes := []int{1200, 0, 600, 496, 992, 3, 1488}
	for round := range 4 {
		for i, size := range sizes {
			x := w.begin(t)
			y := w.write(t, x, fromOf(10*round+i), []byte("what"), row(size, uint32(10*round+i)))
			commit(t, x)
			w.texts = append(w.texts, y)
		}
		if round < 3 {
			for range sizes {
				w.drop(t)
			}
		}
	}
	w.check(t)
	return w
}

// TestSomebodyElse: 20.4, whatever somebody else does to any block: put back what it was before, copy another one there, write anything there: no bytes are stale, or spliced.
func TestSomebodyElse(t *testing.T) {
	w := old(t)
	all, none := w.asIs(t)
	if all < 25 || none != 0 {
		t.Fatalf("%d are right, %d refused", all, none)
	}
	seen := 0
	for at := redo.Blocks; at < w.d.Size(); at++ {
		if !w.h.Space().Taken(at) {
			continue
		}
		was := w.d.Look(at)
		var pokes []api.Poke
		for n := 1; n < 6; n++ {
			pokes = append(pokes, api.Poke{At: at, Kind: api.PokeBack, N: n})
		}
		for from := range w.d.Size() {
			pokes = append(pokes, api.Poke{At: at, Kind: api.PokeCopy, N: from})
		}
		for bit := range 20 {
			b := bytes.Clone(was)
			b[(bit*27+at)%512] ^= 1 << (bit % 8)
			pokes = append(pokes, api.Poke{At: at, Bytes: b})
		}
		pokes = append(pokes, api.Poke{At: at}, api.Poke{At: at, Bytes: row(512, 3)}, api.Poke{At: at, Bytes: was[:511]})
		for _, x := range pokes {
			w.d.Poke(x)
			if _, n := w.asIs(t); n > 0 {
				seen++
			} else if !bytes.Equal(w.d.Look(at), was) {
				t.Errorf("block %d: nothing is seen of %+v", at, x)
			}
			w.d.Poke(api.Poke{At: at, Bytes: was})
		}
		if n, _ := w.asIs(t); n != all {
			t.Fatalf("block %d put as it was: something is wrong", at)
		}
	}
	if seen < 850 {
		t.Errorf("just %d pokes were seen", seen)
	}
	w.check(t)
}

// TestOldDisk: 20.4, the whole disk put back as it was ahead of some changes: what they wrote can't be read, what stood there before them can.
func TestOldDisk(t *testing.T) {
	w := made(t, 60, true)
	for i, size := range []int{600, 0, 1000} {
		w.put(t, size, i)
	}
	w.drop(t)
	var was [][]byte
	for at := range w.d.Size() {
		was = append(was, w.d.Look(at))
	}
	first := slices.Clone(w.texts)
	for i, size := range []int{600, 1, 496, 2000} {
		w.put(t, size, 10+i)
	}
	for at, b := range was {
		w.d.Poke(api.Poke{At: at, Bytes: b})
	}
	for i, y := range w.texts {
		if i < len(first) {
			w.reads(t, y, 0, y.run.Size)
		} else {
			w.refuses(t, y, 0, y.run.Size, api.ErrIntegrity)
		}
	}
}

// TestBetween: 20.4, somebody else changes blocks between the steps of a read: the bytes are as they were, or the code is ErrIntegrity.
func TestBetween(t *testing.T) {
	right, refused := 0, 0
	for seed := range uint64(30) {
		w := old(t)
		r := rand.New(rand.NewPCG(20, seed))
		for range 20 {
			was := make([][]byte, w.d.Size())
			for at := range was {
				was[at] = w.d.Look(at)
			}
			var plot []api.Poke
			for range 1 + r.IntN(4) {
				at := redo.Blocks + r.IntN(20)
				x := api.Poke{When: w.d.Steps() + r.IntN(5), At: at, Kind: api.PokeBack, N: 1 + r.IntN(3)}
				if r.IntN(2) == 0 {
					x = api.Poke{When: x.When, At: at, Kind: api.PokeCopy, N: redo.Blocks + r.IntN(20)}
				}
				plot = append(plot, x)
			}
			w.d.Plot(plot)
			a, b := w.asIs(t)
			right, refused = right+a, refused+b
			w.d.Plot(nil)
			for at, b := range was {
				w.d.Poke(api.Poke{At: at, Bytes: b})
			}
		}
	}
	if right < 1000 || refused < 1000 {
		t.Errorf("%d are right, %d refused", right, refused)
	}
}

// TestWhileWriting: 20.4, somebody else changes blocks between the steps of writing, and of the commit: what is read behind that is as it was written, or ErrIntegrity.
func TestWhileWriting(t *testing.T) {
	right, refused := 0, 0
	for seed := range uint64(40) {
		r := rand.New(rand.NewPCG(2004, seed))
		w := made(t, 60, true)
		for i := range 12 {
			var plot []api.Poke
			for range 2 {
				at := redo.Blocks + r.IntN(20)
				plot = append(plot, api.Poke{When: w.d.Steps() + r.IntN(6), At: at, Kind: r.IntN(3), N: redo.Blocks + r.IntN(20), Bytes: row(512, uint32(i))})
			}
			w.d.Plot(plot)
			x := w.begin(t)
			if len(w.texts) > 3 {
				extent.Free(x, w.texts[0].run)
				w.texts = w.texts[1:]
			}
			y := w.write(t, x, fromOf(100*int(seed)+i), nil, row(r.IntN(2000), uint32(i)))
			commit(t, x)
			w.texts = append(w.texts, y)
			a, b := w.asIs(t)
			right, refused = right+a, refused+b
		}
	}
	if right < 1000 || refused < 1000 {
		t.Errorf("%d are right, %d refused", right, refused)
	}
}

// TestNotSeen: 20.4 and P3, two runs that are the same but for the texts' bytes, and keys: the disk is read and written alike, bit by bit.
func TestNotSeen(t *testing.T) {
	run := func(seed int) []api.Touch {
		w := made(t, 90, true)
		r := rand.New(rand.NewPCG(3, 20))
		for i := range 80 {
			x := w.begin(t)
			if len(w.texts) > 6 {
				extent.Free(x, w.texts[0].run)
				w.texts = w.texts[1:]
			}
			size := r.IntN(2500)
			y := w.write(t, x, fromOf(seed+i), row(5, uint32(i)), row(size, uint32(seed+i)))
			commit(t, x)
			w.texts = append(w.texts, y)
			lo := r.IntN(size + 1)
			w.reads(t, y, lo, lo+r.IntN(size+1-lo))
			w.check(t)
		}
		return w.d.Seen()
	}
	a := run(1)
	if !slices.EqualFunc(a, run(7000), sameTouch) || len(a) < 1000 {
		t.Errorf("the disk was touched otherwise; %d times", len(a))
	}
}

// TestOwnKeys: 20.4 and P6, texts of one key that are not the same thing, or of unlike keys that are, have keys of their own: no nonce is used twice; of one key and thing it is.
func TestOwnKeys(t *testing.T) {
	for _, ideal := range kinds() {
		w := made(t, 100, ideal)
		x := w.begin(t)
		for i := range 5 {
			for j := range 5 {
				w.write(t, x, fromOf(i), row(j, 3), row(600, uint32(5*i+j)))
			}
		}
		if w.s.Reused() {
			t.Errorf("ideal %t: a nonce was used twice", ideal)
		}
		w.write(t, x, fromOf(1), row(2, 3), row(600, 99))
		if !w.s.Reused() {
			t.Errorf("ideal %t: two texts of one key and thing have keys of their own", ideal)
		}
	}
}
