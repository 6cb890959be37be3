package power_test

import (
	"slices"
	"testing"

	"deedbox/power"
)

// model is the chapter's words: the step at which it goes has a number, from the first step on.
type model struct {
	gone  bool
	goes  int // below 0: at none
	done  bool
	steps int
}

func (m *model) fuse(n int, done bool) {
	m.goes, m.done = -1, done
	if n >= 0 {
		m.goes = m.steps + n
	}
}

// step tells what a step answers, and whether what it does is done.
func (m *model) step() (there, isDone bool) {
	if m.gone {
		return false, false
	}
	m.gone = m.steps == m.goes
	m.steps++
	return !m.gone, !m.gone || m.done
}

func (m *model) back() { m.gone, m.goes = false, -1 }

// act is something that is done to power, and to its model.
type act struct {
	name string
	do   func(p *power.Power, m *model) bool
}

func fuseAct(name string, n int, done bool) act {
	return act{name, func(p *power.Power, m *model) bool {
		p.Fuse(n, done)
		m.fuse(n, done)
		return true
	}}
}

func stepAct(p *power.Power, m *model) bool {
	there, times := step(p)
	wantThere, wantDone := m.step()
	wantTimes := 0
	if wantDone {
		wantTimes = 1
	}
	return there == wantThere && times == wantTimes
}

func backAct(p *power.Power, m *model) bool {
	p.Back()
	m.back()
	return true
}

func allActs() []act {
	return []act{
		{"step", stepAct},
		{"back", backAct},
		fuseAct("fuse 0", 0, false),
		fuseAct("fuse 0 done", 0, true),
		fuseAct("fuse 1", 1, false),
		fuseAct("fuse 1 done", 1, true),
		fuseAct("fuse 3 done", 3, true),
		fuseAct("fuse -1 done", -1, true),
	}
}

// follow does the acts of a row, and tells at which place it is not as the model has it (below 0: at none).
func follow(row []act) int {
	p, m := power.New(), &model{goes: -1}
	for i, a := range row {
		if !a.do(p, m) || p.Down() != m.gone || p.Steps() != m.steps {
			return i
		}
	}
	return -1
}

// names is what acts are called.
func names(row []act) []string {
	var l []string
	for _, a := range row {
		l = append(l, a.name)
	}
	return l
}

// TestAllRows: 8.1 to 8.5, each row of six acts, and four steps behind it.
func TestAllRows(t *testing.T) {
	const length, steps = 6, 4
	acts := allActs()
	rows := 1
	for range length {
		rows *= len(acts)
	}
	row := make([]act, length+steps)
	for n := range rows {
		for i := range row {
			row[i] = acts[0]
			if i < length {
				row[i] = acts[n%len(acts)]
				n /= len(acts)
			}
		}
		if i := follow(row); i >= 0 {
			t.Fatalf("%q: not so at place %d", names(row), i)
		}
	}
}

// TestLongRows: 8.1 to 8.5, long rows, most of whose acts are steps.
func TestLongRows(t *testing.T) {
	acts := allActs()
	acts = append(acts, fuseAct("fuse 20", 20, false), fuseAct("fuse 50 done", 50, true))
	for seed := range uint32(400) {
		var row []act
		x := seed*2654435761 + 1
		for range 1000 {
			x = x*1664525 + 1013904223
			a := acts[0]
			if x>>16%8 == 0 {
				a = acts[x>>20%uint32(len(acts))]
			}
			row = append(row, a)
		}
		if i := follow(row); i >= 0 {
			t.Fatalf("row %d: %q: not so at its end", seed, names(row[:i+1]))
		}
	}
}

// TestSameAgain: P8, what is answered hangs on the calls alone.
func TestSameAgain(t *testing.T) {
	for n := -1; n < 8; n++ {
		for _, done := range []bool{false, true} {
			one, oneThere := doneOf(10, n, done)
			other, otherThere := doneOf(10, n, done)
			if !slices.Equal(one, other) || !slices.Equal(oneThere, otherThere) {
				t.Errorf("it goes at %d, %t: %v, %v, and %v, %v", n, done, one, oneThere, other, otherThere)
			}
		}
	}
}
