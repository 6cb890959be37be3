package space_test

import (
	"math"
	"testing"

	"deedbox/api"
	"deedbox/space"
)

// laid is a space as a text says, of which the first ones are taken for good.
func laid(t *testing.T, text string, first int) *space.Space {
	t.Helper()
	s := made(t, len(text), first)
	for at := first; at < len(text); at++ {
		if text[at] == 'x' {
			if code := s.Mark(at, 1); code != api.OK {
				t.Fatalf("%s: Mark(%d, 1): code %d", text, at, code)
			}
		}
	}
	if shown(s) != text {
		t.Fatalf("%s is laid as %s", text, shown(s))
	}
	return s
}

// run is n blocks from at on.
type run struct{ at, n int }

// TestMark: 15.2, a run of free blocks is taken; one of which one is taken, wherever in it, is ErrTwice, and nothing is changed.
func TestMark(t *testing.T) {
	for _, c := range []struct {
		text  string
		first int
		run   run
		code  api.Code
		want  string
	}{
		{"..........", 0, run{0, 1}, api.OK, "x........."},
		{"..........", 0, run{0, 10}, api.OK, "xxxxxxxxxx"},
		{"..........", 0, run{9, 1}, api.OK, ".........x"},
		{"xx........", 2, run{2, 8}, api.OK, "xxxxxxxxxx"},
		{"xx........", 2, run{4, 3}, api.OK, "xx..xxx..."},
		{"xx..x..x..", 2, run{5, 2}, api.OK, "xx..xxxx.."},
		{"xx..x..x..", 2, run{4, 3}, api.ErrTwice, "xx..x..x.."},
		{"xx..x..x..", 2, run{3, 3}, api.ErrTwice, "xx..x..x.."},
		{"xx..x..x..", 2, run{2, 3}, api.ErrTwice, "xx..x..x.."},
		{"xx..x..x..", 2, run{4, 1}, api.ErrTwice, "xx..x..x.."},
		{"xx..x..x..", 2, run{2, 8}, api.ErrTwice, "xx..x..x.."},
		{"xx.......x", 2, run{2, 8}, api.ErrTwice, "xx.......x"},
		{"xxxxxxxxxx", 2, run{3, 4}, api.ErrTwice, "xxxxxxxxxx"},
	} {
		s := laid(t, c.text, c.first)
		if code := s.Mark(c.run.at, c.run.n); code != c.code || shown(s) != c.want {
			t.Errorf("%s, Mark %v: %s with code %d; want %s, %d", c.text, c.run, shown(s), code, c.want, c.code)
		}
	}
}

// TestGive: 15.2, a run of taken blocks is free; one of which one is free, wherever in it, is ErrNone, and nothing is changed. How they came to be taken, and by how many calls, does not count.
func TestGive(t *testing.T) {
	for _, c := range []struct {
		text  string
		first int
		run   run
		code  api.Code
		want  string
	}{
		{"xxxxxxxxxx", 0, run{0, 1}, api.OK, ".xxxxxxxxx"},
		{"xxxxxxxxxx", 0, run{0, 10}, api.OK, ".........."},
		{"xxxxxxxxxx", 0, run{9, 1}, api.OK, "xxxxxxxxx."},
		{"xxxxxxxxxx", 2, run{2, 8}, api.OK, "xx........"},
		{"xxxxxxxxxx", 2, run{4, 3}, api.OK, "xxxx...xxx"},
		{"xx.xx.xx.x", 2, run{6, 2}, api.OK, "xx.xx....x"},
		{"xx.xx.xx.x", 2, run{5, 3}, api.ErrNone, "xx.xx.xx.x"},
		{"xx.xx.xx.x", 2, run{4, 3}, api.ErrNone, "xx.xx.xx.x"},
		{"xx.xx.xx.x", 2, run{3, 3}, api.ErrNone, "xx.xx.xx.x"},
		{"xx.xx.xx.x", 2, run{5, 1}, api.ErrNone, "xx.xx.xx.x"},
		{"xx.xx.xx.x", 2, run{2, 8}, api.ErrNone, "xx.xx.xx.x"},
		{"xxxxxxxxx.", 2, run{2, 8}, api.ErrNone, "xxxxxxxxx."},
		{"xx........", 2, run{3, 4}, api.ErrNone, "xx........"},
	} {
		s := laid(t, c.text, c.first)
		if code := s.Give(c.run.at, c.run.n); code != c.code || shown(s) != c.want {
			t.Errorf("%s, Give %v: %s with code %d; want %s, %d", c.text, c.run, shown(s), code, c.want, c.code)
		}
	}
}

// TestRunRange: 15.2, a run without blocks, or one that is not wholly behind those for good, within all: ErrRange, ahead of the other codes (R6), and nothing is changed.
func TestRunRange(t *testing.T) {
	l := []run{
		{2, 0}, {2, -1}, {5, 0}, {10, 0}, {0, 0}, {-1, 0}, {12, -2}, {10, -3},
		{1, 1}, {0, 1}, {0, 2}, {1, 2}, {1, 9}, {0, 10}, {-1, 1}, {-1, 2}, {-1, 4}, {-1, 11}, {-8, 10},
		{9, 2}, {10, 1}, {11, 1}, {2, 9}, {3, 8}, {8, 3},
	}
	for _, far := range ends() {
		l = append(l, run{far, 1}, run{far, 3}, run{3, far}, run{far, far}, run{far, math.MaxInt}, run{math.MaxInt - far, far}, run{far, -far})
	}
	for _, text := range []string{"xx........", "xxxxxxxxxx", "xx..x..x.."} {
		s := laid(t, text, 2)
		for _, r := range l {
			if code := s.Mark(r.at, r.n); code != api.ErrRange || shown(s) != text {
				t.Fatalf("%s, Mark %v: %s with code %d", text, r, shown(s), code)
			}
			if code := s.Give(r.at, r.n); code != api.ErrRange || shown(s) != text {
				t.Fatalf("%s, Give %v: %s with code %d", text, r, shown(s), code)
			}
		}
	}
}

// TestRunsAtEnds: 15.2, of the greatest space: runs that just fit, and that just do not.
func TestRunsAtEnds(t *testing.T) {
	s := made(t, 4096, 24)
	for _, r := range []run{{24, 4073}, {23, 4073}, {23, 1}, {4096, 1}, {4095, 2}, {0, 4096}, {25, 4072}} {
		if code := s.Mark(r.at, r.n); code != api.ErrRange {
			t.Errorf("Mark %v: code %d", r, code)
		}
	}
	if code := s.Mark(24, 4072); code != api.OK || s.Free() != 0 {
		t.Errorf("code %d, %d are free", code, s.Free())
	}
	for _, r := range []run{{4095, 1}, {24, 1}, {25, 4070}} {
		if code := s.Give(r.at, r.n); code != api.OK {
			t.Errorf("Give %v: code %d", r, code)
		}
	}
	if s.Free() != 4072 {
		t.Errorf("%d are free", s.Free())
	}
}

// TestAllForGood: 15.1 and 15.2, all blocks are taken for good: there is no run at all.
func TestAllForGood(t *testing.T) {
	s := made(t, 5, 5)
	for at := -1; at <= 6; at++ {
		for n := -1; n <= 6; n++ {
			if a, b := s.Mark(at, n), s.Give(at, n); a != api.ErrRange || b != api.ErrRange {
				t.Errorf("%d from %d on: codes %d, %d", n, at, a, b)
			}
		}
	}
	if _, code := s.Take(1); code != api.ErrNoSpace || s.Free() != 0 {
		t.Errorf("code %d, %d are free", code, s.Free())
	}
}
