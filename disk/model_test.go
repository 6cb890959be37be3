package disk_test

import (
	"bytes"
	"slices"
	"testing"

	"deedbox/api"
	"deedbox/disk"
	"deedbox/power"
)

// model is the chapter's words, by one list of all that was ever made safe, through which one goes from its end.
type model struct {
	size  int
	safe  []api.Touch
	waits []api.Touch
	plot  []api.Poke
	seen  []api.Touch
	steps int
	gone  bool
	goes  int // how many steps are ahead of the one at which the power goes; below 0: it goes at none
	done  bool
}

func (m *model) has(at int) bool { return 0 <= at && at < m.size }

// was is what a block was when it was safe, so many changes ago.
func (m *model) was(at, ago int) []byte {
	for _, x := range slices.Backward(m.safe) {
		if x.At == at {
			if ago == 0 {
				return x.Bytes
			}
			ago--
		}
	}
	return noughts()
}

func (m *model) look(at int) []byte {
	for _, x := range slices.Backward(m.waits) {
		if x.At == at {
			return x.Bytes
		}
	}
	return m.was(at, 0)
}

func (m *model) poke(x api.Poke) {
	if !m.has(x.At) {
		return
	}
	b := noughts()
	switch {
	case x.Kind == api.PokeBytes:
		copy(b, x.Bytes)
	case x.Kind == api.PokeCopy && m.has(x.N):
		copy(b, m.look(x.N))
	case x.Kind == api.PokeBack && x.N >= 0:
		copy(b, m.was(x.At, x.N))
	default:
		return
	}
	var left []api.Touch
	for _, w := range m.waits {
		if w.At != x.At {
			left = append(left, w)
		}
	}
	m.waits = left
	m.safe = append(m.safe, api.Touch{At: x.At, Bytes: b})
}

// step does a step of the disk; is it done, and is the power there behind it?
func (m *model) step(x api.Touch) api.Code {
	for _, p := range m.plot {
		if p.When == m.steps {
			m.poke(p)
		}
	}
	if m.gone {
		return api.ErrDown
	}
	m.steps++
	m.gone = m.goes == 0
	if m.goes >= 0 {
		m.goes--
	}
	if m.gone && !m.done {
		return api.ErrDown
	}
	m.seen = append(m.seen, x)
	if x.Kind == api.TouchWrite {
		m.waits = append(m.waits, x)
	}
	if x.Kind == api.TouchFlush {
		m.safe = append(m.safe, m.waits...)
		m.waits = nil
	}
	if m.gone {
		return api.ErrDown
	}
	return api.OK
}

func (m *model) crash(keep []bool) {
	for i, w := range m.waits {
		if i < len(keep) && keep[i] {
			m.safe = append(m.safe, w)
		}
	}
	m.waits = nil
}

// pair is a disk on its power, and the model of both.
type pair struct {
	d *disk.Disk
	p *power.Power
	m *model
}

func newPair(size int) *pair {
	p := power.New()
	d, _ := disk.New(p, size)
	return &pair{d, p, &model{size: size, goes: -1}}
}

// same tells whether the disk is as the model has it.
func (x *pair) same() bool {
	for at := range x.m.size {
		if !bytes.Equal(x.d.Look(at), x.m.look(at)) {
			return false
		}
	}
	return x.d.Loose() == len(x.m.waits) && x.d.Steps() == x.m.steps && x.p.Down() == x.m.gone
}

// act is something that is done to both; false: what is answered is not the same.
type act struct {
	name string
	do   func(x *pair) bool
}

func readAct(name string, at int) act {
	return act{name, func(x *pair) bool {
		b, code := x.d.Read(at)
		want := x.m.step(api.Touch{Kind: api.TouchRead, At: at})
		if want != api.OK {
			return code == want && len(b) == 0
		}
		return code == want && bytes.Equal(b, x.m.look(at))
	}}
}

// writeAct writes what was never written before.
func writeAct(name string, at int) act {
	return act{name, func(x *pair) bool {
		b := block(1 + len(x.m.safe) + 100*x.m.steps)
		return x.d.Write(at, b) == x.m.step(api.Touch{Kind: api.TouchWrite, At: at, Bytes: b})
	}}
}

func flushAct(x *pair) bool {
	return x.d.Flush() == x.m.step(api.Touch{Kind: api.TouchFlush, At: -1})
}

func crashAct(name string, keep ...bool) act {
	return act{name, func(x *pair) bool {
		x.d.Crash(keep)
		x.m.crash(keep)
		return true
	}}
}

func pokeAct(name string, p api.Poke) act {
	return act{name, func(x *pair) bool {
		x.d.Poke(p)
		x.m.poke(p)
		return true
	}}
}

// plotAct plots these, their When being so many steps from now on.
func plotAct(name string, l ...api.Poke) act {
	return act{name, func(x *pair) bool {
		var late []api.Poke
		for _, p := range l {
			late = append(late, ahead(p.When+x.m.steps, p))
		}
		x.d.Plot(late)
		x.m.plot = late
		return true
	}}
}

func fuseAct(name string, n int, done bool) act {
	return act{name, func(x *pair) bool {
		x.p.Fuse(n, done)
		x.m.goes, x.m.done = n, done
		return true
	}}
}

func backAct(x *pair) bool {
	x.p.Back()
	x.m.gone, x.m.goes = false, -1
	return true
}

// fewActs is few enough for all their rows.
func fewActs() []act {
	return []act{
		writeAct("write 0", 0),
		writeAct("write 1", 1),
		readAct("read 0", 0),
		{"flush", flushAct},
		crashAct("crash", false, true),
		pokeAct("back 0 by 1", back(0, 1)),
		pokeAct("copy 1 to 0", copyOf(0, 1)),
		plotAct("plot", ahead(0, back(0, 2)), ahead(1, bytesAt(0, []byte("ab"))), ahead(1, copyOf(1, 0))),
		fuseAct("fuse 0 done", 0, true),
		fuseAct("fuse 1", 1, false),
		{"power", backAct},
	}
}

// moreActs is of all kinds.
func moreActs() []act {
	l := fewActs()
	for at := range 4 {
		l = append(l, writeAct("write", at), writeAct("write", at), readAct("read", at))
		for n := range 5 {
			l = append(l, pokeAct("back", back(at, n-1)), pokeAct("copy", copyOf(at, n)))
		}
		l = append(l, pokeAct("bytes", bytesAt(at, append(block(at), 7)[:at*171])))
	}
	for i := range 16 {
		l = append(l, crashAct("crash", bits(i, 4)...))
		l = append(l, plotAct("plot", ahead(i%3, back(i/4, i%4)), ahead(i%5, copyOf(i%4, i/4)), ahead(i%3, bytesAt(i%5, block(i)))))
		l = append(l, act{"power", backAct}, act{"flush", flushAct})
	}
	return append(l, fuseAct("fuse 3", 3, false), fuseAct("fuse 5 done", 5, true), plotAct("plot nothing"))
}

// follow does the acts of a row, and tells at which place it is not as the model has it (below 0: at none).
func follow(size int, row []act) int {
	x := newPair(size)
	for i, a := range row {
		if !a.do(x) || !x.same() {
			return i
		}
	}
	if !sameTouches(x.d.Seen(), x.m.seen) {
		return len(row)
	}
	return -1
}

func names(row []act) []string {
	var l []string
	for _, a := range row {
		l = append(l, a.name)
	}
	return l
}

// TestAllRows: 9.2 to 9.6, each row of five acts.
func TestAllRows(t *testing.T) {
	const length = 5
	acts := fewActs()
	rows := 1
	for range length {
		rows *= len(acts)
	}
	row := make([]act, length)
	for n := range rows {
		for i := range row {
			row[i] = acts[n%len(acts)]
			n /= len(acts)
		}
		if i := follow(2, row); i >= 0 {
			t.Fatalf("%q: not so at place %d", names(row), i)
		}
	}
}

// TestLongRows: 9.2 to 9.6, long rows of all kinds of acts.
func TestLongRows(t *testing.T) {
	acts := moreActs()
	for seed := range uint32(150) {
		var row []act
		x := seed*2654435761 + 1
		for range 400 {
			x = x*1664525 + 1013904223
			row = append(row, acts[x>>12%uint32(len(acts))])
		}
		if i := follow(4, row); i >= 0 {
			t.Fatalf("row %d: %q: not so at its end", seed, names(row[:min(i+1, len(row))]))
		}
	}
}

// TestSameAgain: P8, what is answered hangs on the calls alone.
func TestSameAgain(t *testing.T) {
	acts := moreActs()
	one, other := newPair(4), newPair(4)
	for i := range 2000 {
		a := acts[i*i*7%len(acts)]
		a.do(one)
		a.do(other)
		for at := range 4 {
			if !bytes.Equal(one.d.Look(at), other.d.Look(at)) {
				t.Fatalf("behind act %d, %s: block %d is not the same", i, a.name, at)
			}
		}
	}
	if !sameTouches(one.d.Seen(), other.d.Seen()) {
		t.Error("what was seen is not the same")
	}
}
