package cell_test

import (
	"bytes"
	"testing"

	"deedbox/api"
	"deedbox/cell"
	"deedbox/power"
)

// model is the chapter's words, by one list of all writes that were done, through which one goes from its end.
type model struct {
	done []api.Touch
	gone bool
	goes int // how many steps are ahead of the one at which the power goes; below 0: it goes at none
	all  bool
	seen int
}

func (m *model) read(at int) ([]byte, api.Code) {
	if at < 0 || at > 3 {
		return nil, api.ErrRange
	}
	if m.gone {
		return nil, api.ErrDown
	}
	for i := len(m.done) - 1; i >= 0; i-- {
		if m.done[i].At == at {
			return filled(m.done[i].Bytes), api.OK
		}
	}
	return make([]byte, 1024), api.OK
}

func (m *model) write(at int, b []byte) api.Code {
	switch {
	case at < 0 || at > 3:
		return api.ErrRange
	case len(b) > 1024:
		return api.ErrSize
	case m.gone:
		return api.ErrDown
	}
	m.seen++
	m.gone = m.goes == 0
	if m.goes >= 0 {
		m.goes--
	}
	if !m.gone || m.all {
		m.done = append(m.done, api.Touch{At: at, Bytes: b})
	}
	if m.gone {
		return api.ErrDown
	}
	return api.OK
}

// pair is a cell on its power, and the model of both.
type pair struct {
	c *cell.Cell
	p *power.Power
	m *model
}

func newPair() *pair {
	p := power.New()
	c, _ := cell.New(p)
	return &pair{c, p, &model{goes: -1}}
}

// same tells whether the cell is as the model has it.
func (x *pair) same() bool {
	for at := -1; at <= cell.Sectors; at++ {
		b, code := x.c.Read(at)
		want, as := x.m.read(at)
		if code != as || !bytes.Equal(b, want) {
			return false
		}
	}
	return x.c.Writes() == len(x.m.done) && x.p.Steps() == x.m.seen && x.p.Down() == x.m.gone
}

// act is something that is done to both; false: what is answered is not the same.
type act func(x *pair, seed int) bool

func writeAct(at, length int) act {
	return func(x *pair, seed int) bool {
		b := row(seed, length)
		return x.c.Write(at, b) == x.m.write(at, b)
	}
}

func fuseAct(n int, done bool) act {
	return func(x *pair, seed int) bool {
		x.p.Fuse(n, done)
		x.m.goes, x.m.all = n, done
		return true
	}
}

func backAct(x *pair, seed int) bool {
	x.p.Back()
	x.m.gone, x.m.goes = false, -1
	return true
}

func acts() []act {
	return []act{
		writeAct(0, 3), writeAct(0, 1024), writeAct(1, 0), writeAct(3, 700), writeAct(2, 1025), writeAct(4, 1), writeAct(-1, 1),
		fuseAct(0, false), fuseAct(0, true), fuseAct(1, true), fuseAct(2, false), fuseAct(-1, true), backAct,
	}
}

// TestShortRows: 10.1 to 10.3, each row of four acts, against the model.
func TestShortRows(t *testing.T) {
	l := acts()
	for n := range len(l) * len(l) * len(l) * len(l) {
		x, left := newPair(), n
		for i := range 4 {
			if !l[left%len(l)](x, i) {
				t.Fatalf("row %d, act %d: the answer is not the model's", n, i)
			}
			left /= len(l)
		}
		if !x.same() {
			t.Fatalf("row %d: the cell is not as the model has it", n)
		}
	}
}

// TestLongRows: 10.1 to 10.3, long rows of acts, against the model behind each of them; and P8, the same row again is the same.
func TestLongRows(t *testing.T) {
	l := acts()
	for seed := range uint32(20) {
		x, again, s := newPair(), newPair(), seed
		for i := range 600 {
			s = s*1664525 + 1013904223
			do := l[int(s>>16)%len(l)]
			if !do(x, i) || !x.same() {
				t.Fatalf("seed %d, act %d: not as the model has it", seed, i)
			}
			if !do(again, i) || !again.same() {
				t.Fatalf("seed %d, act %d: not the same again", seed, i)
			}
		}
	}
}
