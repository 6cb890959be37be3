package tape_test

import (
	"bytes"
	"slices"
	"testing"

	"deedbox/api"
	"deedbox/tape"
)

// row is so many bytes, of its own for each seed; none of them is nought.
func row(seed, length int) []byte {
	b := make([]byte, length)
	x := uint32(seed)*2654435761 + 12345
	for i := range b {
		x = x*1664525 + 1013904223
		b[i] = byte(x>>24) | 1
	}
	return b
}

// fitted is a key as a tape has it: its first 32 bytes, or with noughts behind.
func fitted(b []byte) []byte {
	return append(slices.Clone(b), make([]byte, 32)...)[:32:32]
}

// turn writes over a row of bytes, and over what lies behind its length; to do so twice brings nothing back.
func turn(b []byte) {
	b = b[:cap(b)]
	for i := range b {
		b[i] += 13
	}
}

// rows is so many keys, no two of them the same.
func rows(n int) [][]byte {
	l := make([][]byte, n)
	for i := range l {
		l[i] = append(row(i, 28), byte(i>>24), byte(i>>16), byte(i>>8), byte(i))
	}
	return l
}

// checkDraw draws a key, and holds it against what is wanted.
func checkDraw(t *testing.T, x *tape.Tape, want []byte) {
	t.Helper()
	if got, code := x.Draw(); code != api.OK || !bytes.Equal(got, want) {
		t.Errorf("drawn with code %d: %x; want %x", code, got, want)
	}
}

// checkEmpty draws where there is nothing left.
func checkEmpty(t *testing.T, x *tape.Tape) {
	t.Helper()
	if got, code := x.Draw(); code != api.ErrDraw || len(got) != 0 {
		t.Errorf("drawn with code %d: %x; want nothing", code, got)
	}
}

// checkCounts holds how many keys were drawn, and how many were not, against what is wanted.
func checkCounts(t *testing.T, x *tape.Tape, drawn, left int) {
	t.Helper()
	if x.Drawn() != drawn || x.Left() != left {
		t.Errorf("%d drawn, %d left; want %d, %d", x.Drawn(), x.Left(), drawn, left)
	}
}

// checkApart asks whether no two keys are the same, and holds that against what is wanted.
func checkApart(t *testing.T, x *tape.Tape, want bool) {
	t.Helper()
	if got := x.Apart(); got != want {
		t.Errorf("apart: %t; want %t", got, want)
	}
}

// TestNewFits: 11.1, keys of all lengths are cut to 32 bytes, or have noughts behind; of those that are longer no byte stands in the next one.
func TestNewFits(t *testing.T) {
	var l [][]byte
	for length := range 100 {
		l = append(l, row(length, length))
	}
	x := tape.New(l)
	checkCounts(t, x, 0, 100)
	for _, b := range l {
		checkDraw(t, x, fitted(b))
	}
	checkEmpty(t, x)
}

// TestNewLong: 11.1, of a key that is very long the first bytes are drawn.
func TestNewLong(t *testing.T) {
	b := row(1, 1<<20)
	x := tape.New([][]byte{b, {7}})
	checkDraw(t, x, b[:32])
	checkDraw(t, x, fitted([]byte{7}))
	checkEmpty(t, x)
}

// TestNewNoughts: 11.1, a key without bytes, nil or not, is 32 noughts, and one that is drawn all the same; noughts that stand in a key are its own.
func TestNewNoughts(t *testing.T) {
	x := tape.New([][]byte{nil, {}, {0}, make([]byte, 32), make([]byte, 33), {0, 0, 1}})
	for range 5 {
		checkDraw(t, x, make([]byte, 32))
	}
	checkDraw(t, x, fitted([]byte{0, 0, 1}))
	checkEmpty(t, x)
}

// TestNewNothing: 11.1 and R3, of no keys, nil or not, there is a tape from which nothing is drawn.
func TestNewNothing(t *testing.T) {
	for _, l := range [][][]byte{nil, {}, rows(3)[:0]} {
		x := tape.New(l)
		checkCounts(t, x, 0, 0)
		checkApart(t, x, true)
		checkEmpty(t, x)
		checkCounts(t, x, 0, 0)
	}
}

// TestDraw: 11.2, keys are drawn in the order of the list, each once; at each of them it is told how many were, and how many were not.
func TestDraw(t *testing.T) {
	for n := range 20 {
		l := rows(n)
		// Backward, so that the order is that of the list, and not of the bytes.
		slices.Reverse(l)
		x := tape.New(l)
		for i, b := range l {
			checkCounts(t, x, i, n-i)
			checkDraw(t, x, b)
		}
		checkCounts(t, x, n, 0)
	}
}

// TestDrawPastTheEnd: 11.2, where there is no key, none is drawn, however often it is asked, and none counts.
func TestDrawPastTheEnd(t *testing.T) {
	for n := range 5 {
		x := tape.New(rows(n))
		for range n {
			x.Draw()
		}
		for range 100 {
			checkEmpty(t, x)
			checkCounts(t, x, n, 0)
		}
	}
}

// TestDrawSame: 11.2, keys that are the same are drawn each on its own.
func TestDrawSame(t *testing.T) {
	x := tape.New([][]byte{{1}, {1}, {2}, {1}})
	for i, b := range []byte{1, 1, 2, 1} {
		checkCounts(t, x, i, 4-i)
		checkDraw(t, x, fitted([]byte{b}))
	}
	checkEmpty(t, x)
}

// TestCountsChangeNothing: 11.2, to ask how many were drawn, how many were not, and whether they are apart draws none.
func TestCountsChangeNothing(t *testing.T) {
	l := rows(9)
	slices.Reverse(l)
	x := tape.New(l)
	for i, b := range l {
		for range 3 {
			checkCounts(t, x, i, 9-i)
			checkApart(t, x, true)
		}
		checkDraw(t, x, b)
	}
}

// TestTwoTapes: 11.2, tapes of one list are drawn from each on its own.
func TestTwoTapes(t *testing.T) {
	l := rows(3)
	x, y := tape.New(l), tape.New(l)
	checkDraw(t, x, l[0])
	checkDraw(t, x, l[1])
	checkCounts(t, y, 0, 3)
	checkDraw(t, y, l[0])
	checkDraw(t, x, l[2])
	checkEmpty(t, x)
	checkCounts(t, y, 1, 2)
}

// TestApartPairs: 11.3, on tapes of all lengths up to a bound, whichever two keys are the same, wherever they stand.
func TestApartPairs(t *testing.T) {
	for n := range 16 {
		checkApart(t, tape.New(rows(n)), true)
		for i := range n {
			for j := range i {
				l := rows(n)
				l[i] = l[j]
				checkApart(t, tape.New(l), false)
			}
		}
	}
}

// TestApartByEachByte: 11.3, keys that are unlike at one byte, whichever it is, by one bit, are not the same.
func TestApartByEachByte(t *testing.T) {
	for at := range 32 {
		for bit := range 8 {
			a, b := row(5, 32), row(5, 32)
			b[at] ^= 1 << bit
			checkApart(t, tape.New([][]byte{a, b}), true)
			checkApart(t, tape.New([][]byte{b, a}), true)
			checkApart(t, tape.New([][]byte{b, a, b}), false)
		}
	}
}

// TestApartAsFitted: 11.3 and 11.1, keys of the tape are held against each other, not what they were made of: what was cut off, and noughts behind, do not part them.
func TestApartAsFitted(t *testing.T) {
	long := row(3, 40)
	for _, c := range []struct {
		a, b  []byte
		apart bool
	}{
		{nil, []byte{}, false},
		{nil, make([]byte, 32), false},
		{nil, make([]byte, 40), false},
		{nil, []byte{1}, true},
		{[]byte{1}, []byte{1, 0}, false},
		{[]byte{1}, []byte{0, 1}, true},
		{[]byte{1}, append([]byte{1}, make([]byte, 31)...), false},
		{[]byte{1}, append(append([]byte{1}, make([]byte, 31)...), 9), false},
		{[]byte{1}, append(append([]byte{1}, make([]byte, 30)...), 9), true},
		{long, long[:32], false},
		{long, long[:33], false},
		{long, long[:31], true},
	} {
		checkApart(t, tape.New([][]byte{c.a, c.b}), c.apart)
		checkApart(t, tape.New([][]byte{c.b, c.a}), c.apart)
	}
}

// TestApartDrawnOrNot: 11.3, keys count whether they were drawn or not, with all drawn, and with one of the two.
func TestApartDrawnOrNot(t *testing.T) {
	l := rows(8)
	l[5] = l[2]
	x, y := tape.New(l), tape.New(rows(8))
	for range 10 {
		checkApart(t, x, false)
		checkApart(t, y, true)
		x.Draw()
		y.Draw()
	}
}

// TestApartMany: 11.3 and P0, a long tape is asked in short time; the same key twice, at its ends, is found.
func TestApartMany(t *testing.T) {
	const n = 200000
	l := rows(n)
	checkApart(t, tape.New(l), true)
	l[n-1] = l[0]
	checkApart(t, tape.New(l), false)
	// All of them the same, and all in falling order, are no worse.
	checkApart(t, tape.New(make([][]byte, n)), false)
	slices.Reverse(l)
	checkApart(t, tape.New(l), false)
}

// TestHandedIn: R3, what is handed in is neither changed, nor kept, nor read behind its length.
func TestHandedIn(t *testing.T) {
	l := [][]byte{row(1, 60)[:5], row(2, 60)[:32], row(3, 60)[:31], row(4, 60), nil, row(5, 60)[:0], row(6, 9)}
	var was, whole [][]byte
	for _, b := range l {
		was = append(was, slices.Clone(b))
		whole = append(whole, slices.Clone(b[:cap(b)]))
	}
	x := tape.New(l[:6])
	checkCounts(t, x, 0, 6)
	checkApart(t, x, false)
	for i, b := range l {
		if !bytes.Equal(b, was[i]) || !bytes.Equal(b[:cap(b)], whole[i]) {
			t.Errorf("key %d is changed", i)
		}
		turn(b)
		l[i] = row(99, 3)
	}
	for _, b := range was[:6] {
		checkDraw(t, x, fitted(b))
	}
	checkEmpty(t, x)
}

// TestAnswered: R3, what is answered is new memory: who writes to it, or behind its length, changes neither the tape, nor what is drawn else.
func TestAnswered(t *testing.T) {
	l := [][]byte{{1}, {2}, {1, 2}}
	x := tape.New(l)
	a, _ := x.Draw()
	turn(a)
	kept := slices.Clone(a)
	checkDraw(t, x, fitted(l[1]))
	c, _ := x.Draw()
	if !bytes.Equal(c, fitted(l[2])) || !bytes.Equal(a, kept) {
		t.Errorf("%x, and %x", c, a)
	}
	checkApart(t, x, true)
	// Had the first key been written over as this, it would be the same as the second one.
	y := tape.New([][]byte{{1}, {2}})
	b, _ := y.Draw()
	b[0] = 2
	checkApart(t, y, true)
	if !bytes.Equal(l[0], []byte{1}) {
		t.Errorf("what was handed in is changed: %x", l[0])
	}
}

// TestNotMade: a tape that New did not make is one without keys.
func TestNotMade(t *testing.T) {
	var x tape.Tape
	checkCounts(t, &x, 0, 0)
	checkApart(t, &x, true)
	checkEmpty(t, &x)
	checkCounts(t, &x, 0, 0)
}

// TestExample: the chapter's example.
func TestExample(t *testing.T) {
	x := tape.New([][]byte{row(1, 32), row(2, 32)})
	checkDraw(t, x, row(1, 32))
	checkDraw(t, x, row(2, 32))
	checkEmpty(t, x)
}
