package octet_test

import (
	"math"
	"testing"

	"deedbox/api"
	"deedbox/octet"
)

// expect says what a reader is to tell of itself: how many bytes are left, what was wrong first, and what End answers.
func expect(t *testing.T, r *octet.Reader, left int, code, end api.Code) {
	t.Helper()
	if got := r.Left(); got != left {
		t.Errorf("Left(): %d, want %d", got, left)
	}
	if got := r.Code(); got != code {
		t.Errorf("Code(): %d, want %d", got, code)
	}
	if got := r.End(); got != end {
		t.Errorf("End(): %d, want %d", got, end)
	}
}

// readsNothing asks all that can be asked: behind the first thing that is wrong there are noughts, and nothing changes.
func readsNothing(t *testing.T, r *octet.Reader) {
	t.Helper()
	left, code := r.Left(), r.Code()
	for _, n := range []int{-1, 0, 1, 2, math.MaxInt, math.MinInt} {
		if got := r.Bytes(n); len(got) != 0 {
			t.Errorf("Bytes(%d): %q", n, got)
		}
		if got := r.Number(n); got != 0 {
			t.Errorf("Number(%d): %d", n, got)
		}
		if got := r.Text(n, 9); len(got) != 0 {
			t.Errorf("Text(%d, 9): %q", n, got)
		}
		if got := r.Text(1, n); len(got) != 0 {
			t.Errorf("Text(1, %d): %q", n, got)
		}
	}
	expect(t, r, left, code, code)
}

// TestBytes: 1.5, the next bytes, one piece behind the other.
func TestBytes(t *testing.T) {
	r := octet.Read([]byte("abcdef"))
	expect(t, r, 6, api.OK, api.ErrForm)
	for _, c := range []struct {
		n    int
		want string
		left int
	}{
		{2, "ab", 4},
		{0, "", 4},
		{1, "c", 3},
		{3, "def", 0},
		{0, "", 0},
	} {
		if got := r.Bytes(c.n); string(got) != c.want || r.Left() != c.left || r.Code() != api.OK {
			t.Errorf("Bytes(%d): %q, %d left, code %d", c.n, got, r.Left(), r.Code())
		}
	}
	expect(t, r, 0, api.OK, api.OK)
}

// TestBytesShort: 1.5, a count below 0, or of more than is left.
func TestBytesShort(t *testing.T) {
	for _, n := range []int{-1, math.MinInt, 4, 5, math.MaxInt} {
		r := octet.Read([]byte("xabc"))
		r.Bytes(1)
		if got := r.Bytes(n); len(got) != 0 {
			t.Errorf("Bytes(%d): %q", n, got)
		}
		expect(t, r, 3, api.ErrShort, api.ErrShort)
		readsNothing(t, r)
	}
}

// TestReadNothing: a reader of no bytes is at its end.
func TestReadNothing(t *testing.T) {
	for _, b := range [][]byte{nil, {}} {
		r := octet.Read(b)
		expect(t, r, 0, api.OK, api.OK)
		if got := r.Bytes(0); len(got) != 0 {
			t.Errorf("%q", got)
		}
		expect(t, r, 0, api.OK, api.OK)
		r.Bytes(1)
		expect(t, r, 0, api.ErrShort, api.ErrShort)
	}
}

// TestNumber: 1.5, Get of Bytes.
func TestNumber(t *testing.T) {
	r := octet.Read([]byte{5, 1, 0, 1, 2, 3, 4, 5, 6, 7, 8, 9, 0, 0, 0, 0, 0, 0, 0, 7})
	for _, c := range []struct {
		size int
		want uint64
		left int
	}{
		{1, 5, 19},
		{0, 0, 19},
		{2, 256, 17},
		{8, 0x0102030405060708, 9},
		{9, 7, 0},
	} {
		if got := r.Number(c.size); got != c.want || r.Left() != c.left || r.Code() != api.OK {
			t.Errorf("Number(%d): %#x, %d left, code %d", c.size, got, r.Left(), r.Code())
		}
	}
	expect(t, r, 0, api.OK, api.OK)
}

// TestNumberShort: 1.5.
func TestNumberShort(t *testing.T) {
	for _, size := range []int{-1, 3, math.MaxInt, math.MinInt} {
		r := octet.Read([]byte{1, 2})
		if got := r.Number(size); got != 0 {
			t.Errorf("Number(%d): %d", size, got)
		}
		expect(t, r, 2, api.ErrShort, api.ErrShort)
		readsNothing(t, r)
	}
}

// TestText: 1.5, with its length ahead, up to the greatest one.
func TestText(t *testing.T) {
	for _, c := range []struct {
		b          string
		size, most int
		want       string
		left       int
	}{
		{"\x02ab", 1, 9, "ab", 0},
		{"\x02ab", 1, 2, "ab", 0},
		{"\x02abc", 1, 2, "ab", 1},
		{"\x00ab", 1, 9, "", 2},
		{"\x00ab", 1, 0, "", 2},
		{"\x00ab", 1, -1, "", 2},
		{"\x00ab", 1, math.MinInt, "", 2},
		{"\x02ab", 1, math.MaxInt, "ab", 0},
		{"\x00\x00\x00\x03abcd", 4, 3, "abc", 1},
		{"ab", 0, 9, "", 2},
		{"ab", 0, -1, "", 2},
		// Of a length in nine bytes the last eight count.
		{"\xff\x00\x00\x00\x00\x00\x00\x00\x01ab", 9, 1, "a", 1},
	} {
		r := octet.Read([]byte(c.b))
		if got := r.Text(c.size, c.most); string(got) != c.want {
			t.Errorf("Text(%d, %d) of %q: %q, want %q", c.size, c.most, c.b, got, c.want)
		}
		end := api.OK
		if c.left > 0 {
			end = api.ErrForm
		}
		expect(t, r, c.left, api.OK, end)
	}
}

// TestTextWrong: 1.5, no length, one that is above the greatest one, one of more than is left, in this order.
func TestTextWrong(t *testing.T) {
	for _, c := range []struct {
		b          string
		size, most int
		left       int
		code       api.Code
	}{
		// The length itself is short; nothing is read.
		{"", 1, 9, 0, api.ErrShort},
		{"\x02a", 3, 9, 2, api.ErrShort},
		{"\x02ab", -1, 9, 3, api.ErrShort},
		{"\x02ab", math.MinInt, -1, 3, api.ErrShort},
		// The length is above the greatest one; it was read.
		{"\x02ab", 1, 1, 2, api.ErrForm},
		{"\x02ab", 1, 0, 2, api.ErrForm},
		{"\x01ab", 1, -1, 2, api.ErrForm},
		{"\x01ab", 1, math.MinInt, 2, api.ErrForm},
		{"\x05ab", 1, 4, 2, api.ErrForm},
		// Lengths that no int holds.
		{"\xff\xff\xff\xff\xff\xff\xff\xffab", 8, math.MaxInt, 2, api.ErrForm},
		{"\x80\x00\x00\x00\x00\x00\x00\x00ab", 8, math.MaxInt, 2, api.ErrForm},
		{"\xff\xff\xff\xff\xff\xff\xff\xffab", 8, -1, 2, api.ErrForm},
		// The length is right, but fewer bytes are left; it was read, they were not.
		{"\x03ab", 1, 9, 2, api.ErrShort},
		{"\x03ab", 1, 3, 2, api.ErrShort},
		{"\x7f\xff\xff\xff\xff\xff\xff\xffab", 8, math.MaxInt, 2, api.ErrShort},
	} {
		r := octet.Read([]byte(c.b))
		if got := r.Text(c.size, c.most); len(got) != 0 {
			t.Errorf("Text(%d, %d) of %q: %q", c.size, c.most, c.b, got)
		}
		expect(t, r, c.left, c.code, c.code)
		readsNothing(t, r)
	}
}

// TestFail: 1.6, what is wrong first stays.
func TestFail(t *testing.T) {
	r := octet.Read([]byte("abc"))
	r.Fail(api.OK)
	expect(t, r, 3, api.OK, api.ErrForm)
	if got := r.Bytes(1); string(got) != "a" {
		t.Errorf("behind Fail(OK): %q", got)
	}
	r.Fail(api.ErrName)
	expect(t, r, 2, api.ErrName, api.ErrName)
	r.Fail(api.ErrKey)
	r.Fail(api.OK)
	expect(t, r, 2, api.ErrName, api.ErrName)
	readsNothing(t, r)
}

// TestFailBehindARead: 1.6, a read that went wrong is first, too.
func TestFailBehindARead(t *testing.T) {
	r := octet.Read([]byte{3, 'a'})
	r.Text(1, 2)
	r.Fail(api.ErrName)
	expect(t, r, 1, api.ErrForm, api.ErrForm)
	r = octet.Read(nil)
	r.Number(1)
	r.Fail(api.ErrName)
	expect(t, r, 0, api.ErrShort, api.ErrShort)
}

// TestFailWithAllRead: 1.6, End tells what was wrong, though no bytes are left.
func TestFailWithAllRead(t *testing.T) {
	r := octet.Read([]byte("a"))
	r.Bytes(1)
	expect(t, r, 0, api.OK, api.OK)
	r.Fail(api.ErrRange)
	expect(t, r, 0, api.ErrRange, api.ErrRange)
}

// TestEndIsAnAnswerAlone: 1.6, End tells that bytes are left; they can be read behind it.
func TestEndIsAnAnswerAlone(t *testing.T) {
	r := octet.Read([]byte("ab"))
	r.Bytes(1)
	expect(t, r, 1, api.OK, api.ErrForm)
	if got := r.Bytes(1); string(got) != "b" {
		t.Errorf("%q", got)
	}
	expect(t, r, 0, api.OK, api.OK)
}

// TestReaderKeepsNothingOfOthers: R3, bytes that are handed in are neither changed nor kept, and an answer is new memory.
func TestReaderKeepsNothingOfOthers(t *testing.T) {
	b, stay := guarded(t, "\x02abcdef")
	r := octet.Read(b)
	first := r.Text(1, 9)
	stay()
	scribble(first)
	stay()
	for i := range b {
		b[i] = 'X'
	}
	second := r.Bytes(2)
	if string(second) != "cd" {
		t.Errorf("the reader reads what was changed behind Read: %q", second)
	}
	_ = append(second, "YY"...)
	scribble(second)
	third := r.Bytes(2)
	if string(third) != "ef" {
		t.Errorf("the reader reads what was written to an answer: %q", third)
	}
	r.Bytes(1)
	expect(t, r, 0, api.ErrShort, api.ErrShort)
	if string(third) != "ef" {
		t.Errorf("an answer was written to: %q", third)
	}
}

// TestReadersAreApart: P8, what a reader answers hangs on the calls on it alone.
func TestReadersAreApart(t *testing.T) {
	b := []byte("abcd")
	one, two := octet.Read(b), octet.Read(b)
	one.Bytes(3)
	one.Fail(api.ErrArg)
	expect(t, two, 4, api.OK, api.ErrForm)
	if got := two.Bytes(4); string(got) != "abcd" {
		t.Errorf("%q", got)
	}
	expect(t, two, 0, api.OK, api.OK)
	expect(t, one, 1, api.ErrArg, api.ErrArg)
}

// TestNumbersInARow: P8, what was put is read as what it was.
func TestNumbersInARow(t *testing.T) {
	numbers := []uint64{0, 1, 255, 256, 1 << 40, math.MaxUint64}
	var all []byte
	for _, n := range numbers {
		all = octet.Join(all, octet.Put(n, 8))
	}
	r := octet.Read(all)
	for _, n := range numbers {
		if got := r.Number(8); got != n {
			t.Errorf("%d, back: %d", n, got)
		}
	}
	expect(t, r, 0, api.OK, api.OK)
}
