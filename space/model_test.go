package space_test

import (
	"strings"
	"testing"

	"deedbox/api"
	"deedbox/space"
)

// model is the chapter's words, by a text, a letter a block, in which runs are looked for as texts.
type model struct {
	text  string
	first int
}

func newModel(n, first int) model {
	return model{strings.Repeat("x", first) + strings.Repeat(".", n-first), first}
}

// change puts letters in the place of others, if each is as it has to be.
func (m *model) change(at, n int, from, to string, wrong api.Code) api.Code {
	if n < 1 || at < m.first || n > len(m.text) || at > len(m.text) || at+n > len(m.text) {
		return api.ErrRange
	}
	if m.text[at:at+n] != strings.Repeat(from, n) {
		return wrong
	}
	m.text = m.text[:at] + strings.Repeat(to, n) + m.text[at+n:]
	return api.OK
}

func (m *model) mark(at, n int) api.Code { return m.change(at, n, ".", "x", api.ErrTwice) }

func (m *model) give(at, n int) api.Code { return m.change(at, n, "x", ".", api.ErrNone) }

func (m *model) take(n int) (int, api.Code) {
	if n < 1 {
		return 0, api.ErrArg
	}
	if n > len(m.text) || !strings.Contains(m.text, strings.Repeat(".", n)) {
		return 0, api.ErrNoSpace
	}
	at := strings.Index(m.text, strings.Repeat(".", n))
	m.mark(at, n)
	return at, api.OK
}

// alike tells whether a space is as the model has it.
func alike(s *space.Space, m model) bool {
	return s.Size() == len(m.text) && s.Free() == strings.Count(m.text, ".") && shown(s) == m.text && s.Taken(-1) && s.Taken(len(m.text))
}

// turn changes a block by itself: taken, if it is free, and free, if it is taken.
func turn(t *testing.T, s *space.Space, at int) {
	t.Helper()
	do := s.Mark
	if s.Taken(at) {
		do = s.Give
	}
	if code := do(at, 1); code != api.OK {
		t.Fatalf("block %d: code %d", at, code)
	}
}

// act is something that is done to both; false: what is answered is not the same.
type act func(s *space.Space, m *model) bool

func markAct(at, n int) act {
	return func(s *space.Space, m *model) bool { return s.Mark(at, n) == m.mark(at, n) }
}

func giveAct(at, n int) act {
	return func(s *space.Space, m *model) bool { return s.Give(at, n) == m.give(at, n) }
}

func takeAct(n int) act {
	return func(s *space.Space, m *model) bool {
		at, code := s.Take(n)
		want, as := m.take(n)
		return at == want && code == as
	}
}

// acts is each act on so many blocks, with numbers up to two outside.
func acts(size int) []act {
	var l []act
	for n := -1; n <= size+2; n++ {
		l = append(l, takeAct(n))
		for at := -2; at <= size+2; at++ {
			l = append(l, markAct(at, n), giveAct(at, n))
		}
	}
	return l
}

// patterns is each text of so many blocks, the first ones of which are taken for good.
func patterns(size, first int) []string {
	l := []string{strings.Repeat("x", first)}
	for range size - first {
		var next []string
		for _, text := range l {
			next = append(next, text+".", text+"x")
		}
		l = next
	}
	return l
}

// TestEachAct: 15.1 to 15.4, each act on a copy of each space of up to seven blocks, against the model; what was copied stays as it was.
func TestEachAct(t *testing.T) {
	for size := 1; size <= 7; size++ {
		l := acts(size)
		for first := range size + 1 {
			for _, text := range patterns(size, first) {
				s := laid(t, text, first)
				for i, do := range l {
					c, m := s.Copy(), model{text, first}
					if !do(c, &m) || !alike(c, m) {
						t.Fatalf("%s, %d for good, act %d: %s; want %s", text, first, i, shown(c), m.text)
					}
				}
				if shown(s) != text {
					t.Fatalf("%s: changed with its copies, %s", text, shown(s))
				}
			}
		}
	}
}

// TestLongRows: 15.1 to 15.4, long rows of acts, with copies on the way, against the model behind each of them; and P8, the same row again is the same.
func TestLongRows(t *testing.T) {
	for _, c := range []struct{ size, first int }{{1, 0}, {9, 0}, {9, 4}, {64, 24}, {65, 0}, {200, 24}} {
		l := acts(min(c.size, 12))
		for at := c.first; at < c.size; at += 5 {
			l = append(l, giveAct(at, 1), giveAct(at, 3), markAct(at, 2), takeAct(at-c.first), takeAct(2))
		}
		for seed := range uint32(5) {
			s, again, m, x := made(t, c.size, c.first), made(t, c.size, c.first), newModel(c.size, c.first), seed
			for i := range 1500 {
				x = x*1664525 + 1013904223
				do, as := l[int(x>>12)%len(l)], m
				if !do(s, &m) || !alike(s, m) {
					t.Fatalf("%v, seed %d, act %d: %s; want %s", c, seed, i, shown(s), m.text)
				}
				if !do(again, &as) || !alike(again, as) {
					t.Fatalf("%v, seed %d, act %d: not the same again", c, seed, i)
				}
				if x>>29 == 0 {
					s = s.Copy()
				}
			}
		}
	}
}

// How many blocks there are to be owned, and how many of them are taken for good.
const (
	ownable = 120
	forGood = 24
)

// TestNoneTwice: 15.5, each block has at most one who took it, by Take or by Mark, until it is given; what is taken is what somebody has, or is taken for good.
func TestNoneTwice(t *testing.T) {
	for seed := range uint32(20) {
		s, x := made(t, ownable, forGood), seed
		next := func(n int) int {
			x = x*1664525 + 1013904223
			return int(x>>8) % n
		}
		var owners [ownable]int
		runs := map[int]run{}
		for i := 1; i <= 1000; i++ {
			r, code := run{forGood + next(ownable-forGood), 1 + next(6)}, api.Code(0)
			switch next(3) {
			case 0:
				r.at, code = s.Take(r.n)
			case 1:
				code = s.Mark(r.at, r.n)
			case 2:
				giveOne(t, s, &owners, runs, next(i))
				continue
			}
			if code == api.OK {
				own(t, &owners, r, i)
				runs[i] = r
			}
			checkOwned(t, s, owners[:])
		}
	}
}

// own has somebody own a run, none of which may be somebody's.
func own(t *testing.T, owners *[ownable]int, r run, who int) {
	t.Helper()
	for at := r.at; at < r.at+r.n; at++ {
		if at < forGood || owners[at] != 0 {
			t.Fatalf("block %d is taken twice", at)
		}
		owners[at] = who
	}
}

// giveOne gives what somebody owns, if anything.
func giveOne(t *testing.T, s *space.Space, owners *[ownable]int, runs map[int]run, who int) {
	t.Helper()
	r, ok := runs[who]
	if !ok {
		return
	}
	delete(runs, who)
	if code := s.Give(r.at, r.n); code != api.OK {
		t.Fatalf("Give %v: code %d", r, code)
	}
	for at := r.at; at < r.at+r.n; at++ {
		owners[at] = 0
	}
}

func checkOwned(t *testing.T, s *space.Space, owners []int) {
	t.Helper()
	for at, who := range owners {
		if s.Taken(at) != (at < forGood || who != 0) {
			t.Fatalf("block %d: taken %t, owner %d", at, s.Taken(at), who)
		}
	}
}
