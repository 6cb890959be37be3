package chunk_test

import (
	"math"
	"testing"

	"deedbox/api"
	"deedbox/chunk"
)

// part is from which byte up to which one a piece goes.
type part struct{ from, to int }

// partsOf is a text's pieces by the chapter's words: as many bytes as a piece has, as long as there are any.
func partsOf(size int) []part {
	l := []part{{0, min(size, 496)}}
	for at := 496; at < size; at += 496 {
		l = append(l, part{at, min(size, at+496)})
	}
	return l
}

// sizes is how long texts are about the ends of pieces.
func sizes() []int {
	return []int{0, 1, 2, 16, 255, 480, 495, 496, 497, 511, 512, 513, 991, 992, 993, 1000, 1487, 1488, 1489, 2000}
}

// TestMaxSize: 13.1, the constant.
func TestMaxSize(t *testing.T) {
	if chunk.MaxSize != 1048576 || api.Room != 496 {
		t.Errorf("MaxSize %d, Room %d", chunk.MaxSize, api.Room)
	}
}

// TestCount: 13.1, pieces of Room bytes, the last one of what is left; a text without bytes has one.
func TestCount(t *testing.T) {
	for size := range 6000 {
		if got, want := chunk.Count(size), len(partsOf(size)); got != want {
			t.Errorf("Count(%d): %d; want %d", size, got, want)
		}
	}
	for _, c := range []struct{ size, want int }{
		{0, 1}, {1, 1}, {495, 1}, {496, 1}, {497, 2}, {992, 2}, {993, 3}, {1000, 3}, {1 << 14, 34},
		{chunk.MaxSize - 1, 2115}, {chunk.MaxSize, 2115}, {chunk.MaxSize + 1, 2115}, {2115 * 496, 2115}, {2115*496 + 1, 2116},
		{math.MaxInt32, 4329605}, {4329604 * 496, 4329604}, {4329604*496 + 1, 4329605},
		{math.MaxInt / 496 * 496, math.MaxInt / 496}, {math.MaxInt/496*496 + 1, math.MaxInt/496 + 1}, {math.MaxInt, math.MaxInt/496 + 1},
	} {
		if got := chunk.Count(c.size); got != c.want {
			t.Errorf("Count(%d): %d; want %d", c.size, got, c.want)
		}
	}
}

// TestPart: 13.1, each piece begins where the one ahead ends, up to the text's end; behind the last one both are its size.
func TestPart(t *testing.T) {
	for size := range 3000 {
		l := partsOf(size)
		for i := range len(l) + 3 {
			want := part{size, size}
			if i < len(l) {
				want = l[i]
			}
			if from, to := chunk.Part(size, i); from != want.from || to != want.to {
				t.Errorf("Part(%d, %d): %d, %d; want %v", size, i, from, to, want)
			}
		}
	}
}

// TestPartOfAll: 13.1, of a text of MaxSize bytes, and of the longest one.
func TestPartOfAll(t *testing.T) {
	for i, want := range partsOf(chunk.MaxSize) {
		if from, to := chunk.Part(chunk.MaxSize, i); from != want.from || to != want.to {
			t.Errorf("Part(MaxSize, %d): %d, %d; want %v", i, from, to, want)
		}
	}
	last := math.MaxInt / 496
	for _, c := range []struct {
		size, i int
		want    part
	}{
		{1000, 0, part{0, 496}}, {1000, 1, part{496, 992}}, {1000, 2, part{992, 1000}}, {1000, 3, part{1000, 1000}}, {1000, 4, part{1000, 1000}},
		{1000, math.MaxInt32, part{1000, 1000}}, {1000, math.MaxInt, part{1000, 1000}}, {1000, math.MaxInt - 1, part{1000, 1000}},
		{1000, 1 << 60, part{1000, 1000}}, {1000, 1 << 62, part{1000, 1000}}, {1000, math.MaxInt / 496, part{1000, 1000}}, {1000, math.MaxInt/496 + 1, part{1000, 1000}},
		{0, 0, part{}}, {0, 1, part{}}, {0, math.MaxInt, part{}},
		{math.MaxInt, 0, part{0, 496}}, {math.MaxInt, last - 1, part{(last - 1) * 496, last * 496}}, {math.MaxInt, last, part{last * 496, math.MaxInt}},
		{math.MaxInt, last + 1, part{math.MaxInt, math.MaxInt}}, {math.MaxInt, math.MaxInt, part{math.MaxInt, math.MaxInt}},
		{last * 496, last - 1, part{(last - 1) * 496, last * 496}}, {last * 496, last, part{last * 496, last * 496}},
	} {
		if from, to := chunk.Part(c.size, c.i); from != c.want.from || to != c.want.to {
			t.Errorf("Part(%d, %d): %d, %d; want %v", c.size, c.i, from, to, c.want)
		}
	}
}

// TestNumbersBelowNought: R5, there is nothing of a size, or at a number, below 0; no call panics.
func TestNumbersBelowNought(t *testing.T) {
	for _, n := range []int{-1, -2, -495, -496, -497, -1000, math.MinInt32, math.MinInt + 1, math.MinInt} {
		if got := chunk.Count(n); got != 0 {
			t.Errorf("Count(%d): %d", n, got)
		}
		for _, m := range []int{0, 1, 1000, math.MaxInt, -1, math.MinInt} {
			if from, to := chunk.Part(n, m); from != 0 || to != 0 {
				t.Errorf("Part(%d, %d): %d, %d", n, m, from, to)
			}
			if from, to := chunk.Part(m, n); from != 0 || to != 0 {
				t.Errorf("Part(%d, %d): %d, %d", m, n, from, to)
			}
		}
	}
}
