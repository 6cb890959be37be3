package tape_test

import (
	"bytes"
	"testing"

	"deedbox/api"
	"deedbox/tape"
)

// model is the chapter's words: keys as texts, those that were drawn, and those that were not.
type model struct{ drawn, left []string }

func newModel(l [][]byte) *model {
	m := &model{}
	for _, b := range l {
		m.left = append(m.left, string(fitted(b)))
	}
	return m
}

func (m *model) draw() (string, api.Code) {
	if len(m.left) == 0 {
		return "", api.ErrDraw
	}
	k := m.left[0]
	m.drawn, m.left = append(m.drawn, k), m.left[1:]
	return k, api.OK
}

// apart holds each key against each other one.
func (m *model) apart() bool {
	all := append(append([]string(nil), m.drawn...), m.left...)
	for i, a := range all {
		for _, b := range all[:i] {
			if a == b {
				return false
			}
		}
	}
	return true
}

// checkAlike draws a tape to its end, and past it, and holds all that it tells against the model.
func checkAlike(t *testing.T, l [][]byte) {
	t.Helper()
	x, m := tape.New(l), newModel(l)
	for range len(l) + 2 {
		checkCounts(t, x, len(m.drawn), len(m.left))
		checkApart(t, x, m.apart())
		got, code := x.Draw()
		if want, c := m.draw(); string(got) != want || code != c {
			t.Errorf("of %x: %x with code %d; want %x, %d", l, got, code, want, c)
		}
	}
	checkCounts(t, x, len(l), 0)
}

// TestShortTapes: 11.1 to 11.3, all tapes of up to four of some keys, against the model.
func TestShortTapes(t *testing.T) {
	keys := [][]byte{nil, {0}, {1}, {1, 0}, {0, 1}, row(1, 31), row(1, 32), row(1, 33)}
	longest := [][][]byte{nil}
	for range 5 {
		var next [][][]byte
		for _, l := range longest {
			checkAlike(t, l)
			for _, k := range keys {
				next = append(next, append(append([][]byte(nil), l...), k))
			}
		}
		longest = next
	}
}

// TestLongTapes: 11.1 to 11.3, tapes of many keys of all lengths, with and without two that are the same, against the model.
func TestLongTapes(t *testing.T) {
	x := uint32(1)
	next := func(n int) int {
		x = x*1664525 + 1013904223
		return int(x>>8) % n
	}
	apart := 0
	for range 300 {
		var l [][]byte
		kinds := 1 + next(4000)
		for range next(60) {
			seed := next(kinds)
			l = append(l, row(seed, 5+seed%40))
		}
		checkAlike(t, l)
		if newModel(l).apart() {
			apart++
		}
	}
	if apart < 30 || apart > 270 {
		t.Errorf("%d tapes of 300 are apart: too few of a kind to tell", apart)
	}
}

// TestSameAgain: P8, the same calls on tapes of the same keys answer the same.
func TestSameAgain(t *testing.T) {
	for n := range 40 {
		x, y := tape.New(rows(n)), tape.New(rows(n))
		for range n + 1 {
			a, c := x.Draw()
			b, d := y.Draw()
			if !bytes.Equal(a, b) || c != d || x.Apart() != y.Apart() {
				t.Errorf("%x with code %d, and %x with code %d", a, c, b, d)
			}
		}
	}
}
