package redo_test

import (
	"math"
	"testing"

	"deedbox/api"
	"deedbox/redo"
)

// TestApply: 16.4, each image to its page, in order, and a flush; of none just that; no other block is touched.
func TestApply(t *testing.T) {
	for _, n := range []int{0, 1, 2, 22, 23, 24, 25, 100, 300} {
		d, _ := newDisk(t, 64)
		for at := range 64 {
			put(d, at, row(512, uint32(at+9000)))
		}
		want, l := state(d), images(n, uint32(n))
		for _, x := range l {
			want[x.Page] = x.Block
		}
		if code := redo.Apply(d, l); code != api.OK {
			t.Errorf("%d images: code %d", n, code)
		}
		checkSeen(t, d, 0, touches(l...), 0)
		checkState(t, d, want)
		d.Crash(nil)
		checkState(t, d, want)
	}
}

// TestApplyAnywhere: 16.4, each block of a disk is a page, those of the log and the last one, too.
func TestApplyAnywhere(t *testing.T) {
	for _, size := range []int{1, 2, 24, 25, api.MaxBlocks} {
		d, _ := newDisk(t, size)
		l := []api.Image{{Page: size - 1, Block: row(512, 1)}, {Page: 0, Block: row(512, 2)}, {Page: size / 2, Block: row(512, 3)}}
		if code := redo.Apply(d, l); code != api.OK {
			t.Errorf("%d blocks: code %d", size, code)
		}
		checkSeen(t, d, 0, touches(l...), 0)
	}
}

// TestApplyTwiceThere: 16.4, of two images of one page the last one stays.
func TestApplyTwiceThere(t *testing.T) {
	d, _ := newDisk(t, 64)
	l := []api.Image{{Page: 30, Block: row(512, 1)}, {Page: 31, Block: row(512, 2)}, {Page: 30, Block: row(512, 3)}}
	if code := redo.Apply(d, l); code != api.OK {
		t.Errorf("code %d", code)
	}
	d.Crash(nil)
	want := state(d)
	want[30], want[31] = row(512, 3), row(512, 2)
	checkState(t, d, want)
}

// TestApplyFlushesAll: 16.4, what waited ahead of it is safe, too, as a flush has it.
func TestApplyFlushesAll(t *testing.T) {
	d, _ := newDisk(t, 64)
	d.Write(9, row(512, 9))
	if code := redo.Apply(d, nil); code != api.OK || d.Loose() != 0 {
		t.Errorf("code %d, %d writes wait", code, d.Loose())
	}
}

// TestApplyArg: 16.4, without a disk: ErrArg, whatever the images are.
func TestApplyArg(t *testing.T) {
	lists := append(wrongImages(), nil, []api.Image{}, images(1, 1), images(24, 1))
	for i, l := range lists {
		if code := redo.Apply(nil, l); code != api.ErrArg {
			t.Errorf("list %d: code %d", i, code)
		}
	}
}

// TestApplyWrong: 16.4, an image that the disk does not take, at each place: its code, that of the page ahead of that of the bytes; those ahead of it are written, and wait; none behind it is, and nothing is flushed.
func TestApplyWrong(t *testing.T) {
	cases := []struct {
		x    api.Image
		want api.Code
	}{
		{api.Image{Page: -1, Block: row(512, 1)}, api.ErrRange},
		{api.Image{Page: math.MinInt, Block: row(512, 1)}, api.ErrRange},
		{api.Image{Page: 64, Block: row(512, 1)}, api.ErrRange},
		{api.Image{Page: 4096, Block: row(512, 1)}, api.ErrRange},
		{api.Image{Page: math.MaxInt, Block: row(512, 1)}, api.ErrRange},
		{api.Image{Page: 64, Block: row(511, 1)}, api.ErrRange},
		{api.Image{Page: -1}, api.ErrRange},
		{api.Image{Page: 63}, api.ErrSize},
		{api.Image{Page: 30, Block: row(511, 1)}, api.ErrSize},
		{api.Image{Page: 30, Block: row(513, 1)}, api.ErrSize},
	}
	for i, c := range cases {
		for place := range 6 {
			d, _ := newDisk(t, 64)
			l := images(6, 1)
			l[place] = c.x
			if place < 5 {
				// Another wrong one behind it does not tell.
				l[5] = cases[len(cases)-1-i].x
			}
			if code := redo.Apply(d, l); code != c.want {
				t.Errorf("case %d, place %d: code %d; want %d", i, place, code, c.want)
			}
			checkSeen(t, d, 0, touches(l...)[:place], place)
		}
	}
}

// TestApplyPower: 16.4, the power goes at each step, what is atomic in it done or not: ErrDown, and nothing behind that is done.
func TestApplyPower(t *testing.T) {
	for _, n := range []int{0, 1, 2, 23, 30} {
		for step := range n + 1 {
			for _, done := range []bool{false, true} {
				d, p := newDisk(t, 64)
				l := images(n, 1)
				all, did := touches(l...), step
				if done {
					did++
				}
				loose := did
				if did == len(all) {
					loose = 0
				}
				p.Fuse(step, done)
				for range 2 {
					if code := redo.Apply(d, l); code != api.ErrDown {
						t.Errorf("%d images, step %d: code %d", n, step, code)
					}
					checkSeen(t, d, 0, all[:did], loose)
				}
				if d.Steps() != step+1 {
					t.Errorf("%d steps; want %d", d.Steps(), step+1)
				}
			}
		}
	}
}
