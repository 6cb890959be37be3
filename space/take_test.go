package space_test

import (
	"math"
	"testing"

	"deedbox/api"
)

// TestExample: the chapter's example.
func TestExample(t *testing.T) {
	s := made(t, 10, 2)
	if at, code := s.Take(3); at != 2 || code != api.OK || shown(s) != "xxxxx....." {
		t.Errorf("%d with code %d: %s", at, code, shown(s))
	}
}

// TestTake: 15.3, the first run of so many free blocks is taken, and no other block; not the one that fits best, nor one of a longer run's end.
func TestTake(t *testing.T) {
	for _, c := range []struct {
		text  string
		first int
		n, at int
		want  string
	}{
		{"..........", 0, 1, 0, "x........."},
		{"..........", 0, 10, 0, "xxxxxxxxxx"},
		{"xx........", 2, 8, 2, "xxxxxxxxxx"},
		{"xx........", 2, 7, 2, "xxxxxxxxx."},
		{"xx..x.x...", 2, 1, 2, "xxx.x.x..."},
		{"xx..x.x...", 2, 2, 2, "xxxxx.x..."},
		{"xx..x.x...", 2, 3, 7, "xx..x.xxxx"},
		{"xx.....x.x", 2, 1, 2, "xxx....x.x"},
		{"x.x..x....", 1, 2, 3, "x.xxxx...."},
		{"x.x..x....", 1, 3, 6, "x.x..xxxx."},
		{"x.x..x....", 1, 4, 6, "x.x..xxxxx"},
		{"xxxxxxxxx.", 4, 1, 9, "xxxxxxxxxx"},
		{".xxxxxxxxx", 0, 1, 0, "xxxxxxxxxx"},
		{".", 0, 1, 0, "x"},
	} {
		s := laid(t, c.text, c.first)
		if at, code := s.Take(c.n); at != c.at || code != api.OK || shown(s) != c.want {
			t.Errorf("%s, Take(%d): %d with code %d, %s; want %d, %s", c.text, c.n, at, code, shown(s), c.at, c.want)
		}
	}
}

// TestTakeNone: 15.3, there are enough free blocks, but no run of so many, or too few at all: ErrNoSpace; nothing is answered beside it, and nothing is changed.
func TestTakeNone(t *testing.T) {
	for _, c := range []struct {
		text string
		n    int
	}{
		{"xx........", 9}, {"xx........", 10}, {"xx........", 11}, {"xx........", 4096}, {"xx........", 4097},
		{"xx........", math.MaxInt32}, {"xx........", math.MaxInt}, {"xxxxxxxxxx", 1}, {"xxxxxxxxxx", math.MaxInt},
		{"xx.x.x.x.x", 2}, {"xx...x...x", 4}, {"xx...x....", 5}, {"xx....x...", 5}, {"xx....x...", 7}, {"xx...xxx..", 4},
	} {
		s := laid(t, c.text, 2)
		if at, code := s.Take(c.n); at != 0 || code != api.ErrNoSpace || shown(s) != c.text {
			t.Errorf("%s, Take(%d): %d with code %d, %s", c.text, c.n, at, code, shown(s))
		}
	}
}

// TestTakeArg: 15.3, fewer than one: ErrArg, be there room or not (R6).
func TestTakeArg(t *testing.T) {
	for _, text := range []string{"xx........", "xxxxxxxxxx", "xx..x..x.."} {
		for _, n := range []int{0, -1, -2, -10, -4096, math.MinInt32, math.MinInt + 1, math.MinInt} {
			s := laid(t, text, 2)
			if at, code := s.Take(n); at != 0 || code != api.ErrArg || shown(s) != text {
				t.Errorf("%s, Take(%d): %d with code %d, %s", text, n, at, code, shown(s))
			}
		}
	}
}

// TestTakeGreatest: 15.3, of the greatest space: all of it, and the last block alone.
func TestTakeGreatest(t *testing.T) {
	s := made(t, 4096, 0)
	if at, code := s.Take(4096); at != 0 || code != api.OK || s.Free() != 0 {
		t.Errorf("%d with code %d, %d are free", at, code, s.Free())
	}
	s.Give(4095, 1)
	s.Give(100, 3)
	if at, code := s.Take(4); at != 0 || code != api.ErrNoSpace {
		t.Errorf("%d with code %d", at, code)
	}
	s.Mark(100, 3)
	if at, code := s.Take(1); at != 4095 || code != api.OK {
		t.Errorf("%d with code %d", at, code)
	}
}

// TestTakeAgain: 15.3, what is given is found again, ahead of what was never taken.
func TestTakeAgain(t *testing.T) {
	s := made(t, 10, 2)
	for _, want := range []int{2, 4, 6} {
		if at, code := s.Take(2); at != want || code != api.OK {
			t.Errorf("%d with code %d; want %d", at, code, want)
		}
	}
	s.Give(3, 2) // of two runs, half of each
	if at, code := s.Take(2); at != 3 || code != api.OK || shown(s) != "xxxxxxxx.." {
		t.Errorf("%d with code %d, %s", at, code, shown(s))
	}
}

// TestCopy: 15.4, a copy is the same, those for good, too; whatever is done to either is not done to the other.
func TestCopy(t *testing.T) {
	for _, text := range []string{"xx........", "xxxxxxxxxx", "xx..x..x.."} {
		s := laid(t, text, 2)
		c := s.Copy()
		if shown(c) != text || c.Size() != s.Size() || c.Free() != s.Free() {
			t.Errorf("%s: the copy is %s, %d of %d are free", text, shown(c), c.Free(), c.Size())
		}
		if a, b := c.Mark(1, 1), c.Give(1, 1); a != api.ErrRange || b != api.ErrRange {
			t.Errorf("%s: of a copy's block for good: codes %d, %d", text, a, b)
		}
		for at := 2; at < 10; at++ {
			turn(t, c, at)
			if shown(s) != text {
				t.Fatalf("%s: changed with the copy, %s", text, shown(s))
			}
		}
		turned := shown(c)
		for at := 2; at < 10; at += 2 {
			turn(t, s, at)
			if shown(c) != turned {
				t.Fatalf("%s: the copy, %s, is changed too, %s", text, turned, shown(c))
			}
		}
	}
}

// TestCopyOfCopy: 15.4, copies of copies, and two of one space, go ways of their own.
func TestCopyOfCopy(t *testing.T) {
	s := made(t, 6, 1)
	a, b := s.Copy(), s.Copy()
	a.Take(1)
	c := a.Copy()
	c.Take(2)
	b.Mark(5, 1)
	for _, x := range []struct{ got, want string }{{shown(s), "x....."}, {shown(a), "xx...."}, {shown(b), "x....x"}, {shown(c), "xxxx.."}} {
		if x.got != x.want {
			t.Errorf("%s; want %s", x.got, x.want)
		}
	}
}
