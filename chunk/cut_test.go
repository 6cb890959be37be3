package chunk_test

import (
	"bytes"
	"math"
	"testing"

	"deedbox/chunk"
)

// edges is bytes about the ends of pieces.
func edges() []int {
	return []int{0, 1, 2, 3, 200, 494, 495, 496, 497, 498, 512, 990, 991, 992, 993, 994, 999, 1000, 1001, 1486, 1487, 1488, 1489, 1490, 1700, 1983, 1984, 1985, 1999, 2000, 2001}
}

// TestCover: 13.4, the pieces that have bytes of those, gone through one by one.
func TestCover(t *testing.T) {
	for _, size := range sizes() {
		parts := partsOf(size)
		for _, from := range append(edges(), -1, -496) {
			for _, to := range append(edges(), -1, -495) {
				first, n := 0, 0
				for i, p := range parts {
					if from >= 0 && from < to && to <= size && p.from < to && p.to > from {
						if n == 0 {
							first = i
						}
						n++
					}
				}
				if a, b := chunk.Cover(size, from, to); a != first || b != n {
					t.Errorf("Cover(%d, %d, %d): %d, %d; want %d, %d", size, from, to, a, b, first, n)
				}
			}
		}
	}
}

// TestCoverEdges: 13.4, none of no bytes, of bytes that are not there, and of the greatest and the smallest numbers.
func TestCoverEdges(t *testing.T) {
	last := (math.MaxInt - 1) / 496
	for _, c := range []struct{ size, from, to, first, n int }{
		{1000, 495, 497, 0, 2}, {1000, 0, 1, 0, 1}, {1000, 0, 496, 0, 1}, {1000, 496, 992, 1, 1}, {1000, 495, 993, 0, 3}, {1000, 999, 1000, 2, 1}, {1000, 0, 1000, 0, 3},
		{1000, 992, 1000, 2, 1}, {1000, 991, 992, 1, 1}, {1000, 992, 1001, 0, 0}, {1000, 1000, 1001, 0, 0},
		{0, 0, 0, 0, 0}, {0, 0, 1, 0, 0}, {1000, 5, 5, 0, 0}, {1000, 500, 500, 0, 0}, {1000, 1000, 1000, 0, 0}, {1000, 600, 599, 0, 0}, {1000, 600, 0, 0, 0},
		{1000, -1, 5, 0, 0}, {1000, -1000, 1000, 0, 0}, {1000, -2, -1, 0, 0}, {-1, -3, -2, 0, 0}, {-1, 0, 1, 0, 0}, {-5, 0, 0, 0, 0},
		{1000, math.MinInt, 1000, 0, 0}, {1000, math.MinInt, math.MaxInt, 0, 0}, {1000, 0, math.MaxInt, 0, 0}, {1000, math.MaxInt, math.MinInt, 0, 0}, {math.MinInt, 0, 1, 0, 0},
		{math.MaxInt, 0, math.MaxInt, 0, last + 1}, {math.MaxInt, math.MaxInt - 1, math.MaxInt, last, 1}, {math.MaxInt, math.MaxInt, math.MaxInt, 0, 0},
		{chunk.MaxSize, 0, chunk.MaxSize, 0, 2115}, {chunk.MaxSize, chunk.MaxSize - 1, chunk.MaxSize, 2114, 1}, {chunk.MaxSize, 2114*496 - 1, chunk.MaxSize, 2113, 2},
	} {
		if first, n := chunk.Cover(c.size, c.from, c.to); first != c.first || n != c.n {
			t.Errorf("Cover(%d, %d, %d): %d, %d; want %d, %d", c.size, c.from, c.to, first, n, c.first, c.n)
		}
	}
}

// cutOf is what is to be cut out, by the chapter's words: of all bytes of the pieces, each with its place.
func cutOf(pieces [][]byte, first, from, to int) []byte {
	all := bytes.Join(pieces, nil)
	lo, hi := from-496*first, to-496*first
	if from < 0 || lo < 0 || hi > len(all) || lo > hi {
		return nil
	}
	return all[lo:hi]
}

// cuts holds what is cut out against that.
func cuts(t *testing.T, pieces [][]byte, first, from, to int) {
	t.Helper()
	if got, want := chunk.Cut(pieces, first, from, to), cutOf(pieces, first, from, to); !bytes.Equal(got, want) {
		t.Errorf("Cut of %d pieces, %d, %d, %d: %x; want %x", len(pieces), first, from, to, got, want)
	}
}

// piecesOf is pieces of these lengths, all bytes of them in a row.
func piecesOf(lengths ...int) [][]byte {
	total := 0
	for _, n := range lengths {
		total += n
	}
	rest := row(total, 77)
	l := [][]byte{}
	for _, n := range lengths {
		l, rest = append(l, bytes.Clone(rest[:n])), rest[n:]
	}
	return l
}

// TestCut: 13.4, of a text's pieces, from each one on.
func TestCut(t *testing.T) {
	for _, lengths := range [][]int{{}, {0}, {1}, {8}, {496}, {496, 1}, {496, 496}, {496, 496, 8}, {496, 496, 496, 496, 16}} {
		pieces := piecesOf(lengths...)
		for first := range 5 {
			for _, from := range append(edges(), -1, -496) {
				for _, to := range append(edges(), -1, -495) {
					cuts(t, pieces, first, from, to)
				}
			}
		}
	}
}

// TestCutSmall: 13.4, each from and to about short pieces, of whatever lengths: they stand one behind the other all the same.
func TestCutSmall(t *testing.T) {
	for _, lengths := range [][]int{{0, 0, 0}, {3}, {0, 3}, {3, 0}, {1, 2, 3}, {0, 2, 0, 0, 3, 0}, {5, 1, 1, 1, 0, 4}} {
		pieces := piecesOf(lengths...)
		for first := range 3 {
			for from := 496*first - 3; from < 496*first+16; from++ {
				for to := 496*first - 3; to < 496*first+16; to++ {
					cuts(t, pieces, first, from, to)
				}
			}
		}
	}
	long := piecesOf(700, 3, 1000, 496)
	for first := range 4 {
		for _, from := range edges() {
			for _, to := range edges() {
				cuts(t, long, first, 3*from/2, 3*to/2)
			}
		}
	}
}

// TestCutGreat: 13.4, numbers up to 2^31 - 1.
func TestCutGreat(t *testing.T) {
	const most = math.MaxInt32
	pieces := piecesOf(496, 496, 30)
	for _, first := range []int{0, 1, 2, 8659208, most / 496, most/496 - 1, most/496 - 2, most/496 + 1, most - 1, most} {
		for _, from := range []int{0, 5, 496 * first, 496*first + 1, 496*first + 600, most - 600, most - 40, most - 1, most} {
			for _, to := range []int{0, 6, 496*first + 1, 496*first + 2, 496*first + 1022, 496*first + 1023, most - 1, most} {
				if from <= most && to <= most {
					cuts(t, pieces, first, from, to)
				}
			}
		}
	}
	first := most / 496
	if got := chunk.Cut(pieces, first, 496*first+3, most); len(got) != most-496*first-3 || !bytes.Equal(got, pieces[0][3:most-496*first]) {
		t.Errorf("at the end: %x", got)
	}
}

// TestCutBeyond: no panic, and none, of numbers that the chapter does not name.
func TestCutBeyond(t *testing.T) {
	pieces := piecesOf(496, 496, 30)
	for _, first := range []int{-1, -2, math.MinInt32, math.MinInt, 1 << 32, 1 << 60, 1 << 62, math.MaxInt / 496, math.MaxInt/496 + 1, math.MaxInt} {
		for _, from := range []int{math.MinInt, -496, -1, 0, 5, 496, 1000, math.MaxInt32} {
			for _, to := range []int{math.MinInt, -1, 0, 6, 497, 1022, math.MaxInt32, math.MaxInt} {
				if got := chunk.Cut(pieces, first, from, to); len(got) != 0 {
					t.Errorf("Cut of %d, %d, %d: %x", first, from, to, got)
				}
			}
		}
	}
	for _, c := range []part{{0, math.MaxInt}, {math.MaxInt - 1, math.MaxInt}, {math.MinInt, math.MaxInt}, {math.MinInt, 5}, {math.MaxInt, math.MinInt}, {5, math.MinInt}} {
		if got := chunk.Cut(pieces, 0, c.from, c.to); len(got) != 0 {
			t.Errorf("Cut of %d, %d: %x", c.from, c.to, got)
		}
	}
}
