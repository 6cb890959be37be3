package space_test

import (
	"math"
	"testing"

	"deedbox/api"
	"deedbox/space"
)

// made is a space that may be.
func made(t *testing.T, n, first int) *space.Space {
	t.Helper()
	s, code := space.New(n, first)
	if code != api.OK || s == nil {
		t.Fatalf("New(%d, %d): %v with code %d", n, first, s, code)
	}
	return s
}

// shown is a space as a text, a letter a block: x is taken, a point is free.
func shown(s *space.Space) string {
	b := make([]byte, s.Size())
	for at := range b {
		b[at] = '.'
		if s.Taken(at) {
			b[at] = 'x'
		}
	}
	return string(b)
}

// ends is numbers far outside.
func ends() []int {
	return []int{
		math.MinInt, math.MinInt + 1, math.MinInt32, -4097, -4096, -2, -1,
		4097, 4098, math.MaxInt32, math.MaxInt - 4096, math.MaxInt - 1, math.MaxInt,
	}
}

// TestNew: 15.1, each size up to a bound and those about MaxBlocks, with each number of blocks that are taken for good: these are taken, all others are free.
func TestNew(t *testing.T) {
	var sizes []int
	for n := range 40 {
		sizes = append(sizes, n+1)
	}
	for _, n := range append(sizes, 4095, 4096) {
		for first := 0; first <= n; first += 1 + n/100 {
			checkNew(t, n, first)
		}
		checkNew(t, n, n)
	}
}

func checkNew(t *testing.T, n, first int) {
	t.Helper()
	s := made(t, n, first)
	if s.Size() != n || s.Free() != n-first {
		t.Errorf("New(%d, %d): size %d, free %d", n, first, s.Size(), s.Free())
	}
	for at := range n {
		if s.Taken(at) != (at < first) {
			t.Errorf("New(%d, %d): block %d taken: %t", n, first, at, s.Taken(at))
		}
	}
}

// TestNewRange: 15.1, numbers that are not right, either or both: ErrRange, and nothing beside it.
func TestNewRange(t *testing.T) {
	if api.MaxBlocks != 4096 {
		t.Errorf("MaxBlocks %d", api.MaxBlocks)
	}
	for _, far := range ends() {
		checkRefused(t, far, 0)
		checkRefused(t, far, far)
		checkRefused(t, 4096, far)
		checkRefused(t, 1, far)
	}
	for _, c := range []struct{ n, first int }{
		{0, 0}, {0, 1}, {0, -1}, {-1, 0}, {-1, -1}, {-1, -2}, {1, -1}, {1, 2}, {10, -1}, {10, 11}, {4095, 4096}, {4096, -1}, {4096, 4097}, {4097, 0}, {4097, 4097}, {4097, 4096},
	} {
		checkRefused(t, c.n, c.first)
	}
}

func checkRefused(t *testing.T, n, first int) {
	t.Helper()
	if s, code := space.New(n, first); s != nil || code != api.ErrRange {
		t.Errorf("New(%d, %d): %v with code %d", n, first, s, code)
	}
}

// TestTakenNone: 15.1, a block that there is not is taken, whatever the others are; no block is changed by being asked for.
func TestTakenNone(t *testing.T) {
	for _, c := range []struct{ n, first int }{{1, 0}, {1, 1}, {10, 2}, {64, 0}, {4096, 24}} {
		s := made(t, c.n, c.first)
		for _, at := range append(ends(), c.n, c.n+1, c.n+63, c.n+64) {
			if !s.Taken(at) {
				t.Errorf("of %d blocks, Taken(%d): false", c.n, at)
			}
		}
		if s.Free() != c.n-c.first {
			t.Errorf("of %d blocks, %d for good: %d are free", c.n, c.first, s.Free())
		}
	}
}

// TestFree: 15.1, Free goes with the blocks, up to none at all.
func TestFree(t *testing.T) {
	s := made(t, 4096, 24)
	for i := range 4072 {
		if s.Free() != 4072-i {
			t.Fatalf("behind %d: %d are free", i, s.Free())
		}
		if at, code := s.Take(1); at != 24+i || code != api.OK {
			t.Fatalf("the %dth: %d with code %d", i, at, code)
		}
	}
	if s.Free() != 0 || s.Size() != 4096 {
		t.Errorf("full: %d are free, of %d", s.Free(), s.Size())
	}
	if code := s.Give(30, 7); code != api.OK || s.Free() != 7 {
		t.Errorf("code %d, %d are free", code, s.Free())
	}
}

// TestApart: two spaces have nothing in common.
func TestApart(t *testing.T) {
	a, b := made(t, 8, 1), made(t, 8, 1)
	a.Take(3)
	if shown(a) != "xxxx...." || shown(b) != "x......." {
		t.Errorf("%s, %s", shown(a), shown(b))
	}
}
