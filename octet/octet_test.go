package octet_test

import (
	"bytes"
	"math"
	"strings"
	"testing"

	"deedbox/octet"
)

// guarded is bytes with others behind their length in the same memory, and a check that neither was changed.
func guarded(t *testing.T, text string) ([]byte, func()) {
	t.Helper()
	whole := []byte(text + "behind")
	return whole[:len(text)], func() {
		t.Helper()
		if string(whole) != text+"behind" {
			t.Errorf("what was handed in was changed: %q, was %q", whole, text+"behind")
		}
	}
}

// scribble writes over an answer, and over what lies behind its length.
func scribble(b []byte) {
	b = b[:cap(b)]
	for i := range b {
		b[i] = 0xee
	}
}

// TestPut: 1.1, the lowest bytes of a number, the highest first.
func TestPut(t *testing.T) {
	for _, c := range []struct {
		n    uint64
		size int
		want []byte
	}{
		{0, 1, []byte{0}},
		{5, 1, []byte{5}},
		{0x1234, 1, []byte{0x34}},
		{0x1234, 2, []byte{0x12, 0x34}},
		{0x1234, 3, []byte{0, 0x12, 0x34}},
		{0x12345678, 3, []byte{0x34, 0x56, 0x78}},
		{0x0102030405060708, 7, []byte{2, 3, 4, 5, 6, 7, 8}},
		{0x0102030405060708, 8, []byte{1, 2, 3, 4, 5, 6, 7, 8}},
		{math.MaxUint64, 8, []byte{255, 255, 255, 255, 255, 255, 255, 255}},
		{0x0100, 4, []byte{0, 0, 1, 0}},
		{1 << 63, 8, []byte{128, 0, 0, 0, 0, 0, 0, 0}},
		// Above eight: noughts ahead.
		{0x0102030405060708, 9, []byte{0, 1, 2, 3, 4, 5, 6, 7, 8}},
		{math.MaxUint64, 12, []byte{0, 0, 0, 0, 255, 255, 255, 255, 255, 255, 255, 255}},
		{7, 16, []byte{0, 0, 0, 0, 0, 0, 0, 0, 0, 0, 0, 0, 0, 0, 0, 7}},
		// Below one: none.
		{5, 0, nil},
		{5, -1, nil},
		{math.MaxUint64, math.MinInt, nil},
	} {
		if got := octet.Put(c.n, c.size); !bytes.Equal(got, c.want) {
			t.Errorf("Put(%#x, %d): %v, want %v", c.n, c.size, got, c.want)
		}
	}
}

// TestPutBeyondAllBounds: a size for which no memory could be had must not stop the program.
func TestPutBeyondAllBounds(t *testing.T) {
	for _, size := range []int{math.MaxInt32 + 1, math.MaxInt} {
		if got := octet.Put(1, size); len(got) != 0 {
			t.Errorf("Put(1, %d) has %d bytes", size, len(got))
		}
	}
}

// TestPutIsNew: R3, an answer that is written to does not change the next one.
func TestPutIsNew(t *testing.T) {
	scribble(octet.Put(0x0102, 2))
	if got := octet.Put(0x0102, 2); !bytes.Equal(got, []byte{1, 2}) {
		t.Errorf("%v", got)
	}
}

// TestGet: 1.1, the number of the last eight bytes, the highest first.
func TestGet(t *testing.T) {
	for _, c := range []struct {
		b    []byte
		want uint64
	}{
		{nil, 0},
		{[]byte{}, 0},
		{[]byte{0}, 0},
		{[]byte{200}, 200},
		{[]byte{1, 0}, 256},
		{[]byte{0, 0, 0x12, 0x34}, 0x1234},
		{[]byte{1, 2, 3, 4, 5, 6, 7}, 0x01020304050607},
		{[]byte{1, 2, 3, 4, 5, 6, 7, 8}, 0x0102030405060708},
		{[]byte{255, 255, 255, 255, 255, 255, 255, 255}, math.MaxUint64},
		// More than eight: of the last eight.
		{[]byte{9, 1, 2, 3, 4, 5, 6, 7, 8}, 0x0102030405060708},
		{[]byte{255, 255, 255, 255, 0, 0, 0, 0, 0, 0, 0, 3}, 3},
	} {
		if got := octet.Get(c.b); got != c.want {
			t.Errorf("Get(%v): %#x, want %#x", c.b, got, c.want)
		}
	}
}

// TestGetStaysInItsLength: R3.
func TestGetStaysInItsLength(t *testing.T) {
	b, unchanged := guarded(t, "\x01\x02")
	if got := octet.Get(b); got != 0x0102 {
		t.Errorf("%#x", got)
	}
	unchanged()
}

// TestNumbersThereAndBack: 1.7, numbers in eight bytes come back; in fewer, what is left of them does.
func TestNumbersThereAndBack(t *testing.T) {
	numbers := []uint64{0, 1, 255, 256, math.MaxInt64, math.MaxUint64, 0x0102030405060708, 0xfedcba9876543210}
	for shift := range 64 {
		numbers = append(numbers, 1<<shift, 1<<shift-1, math.MaxUint64<<shift)
	}
	for _, n := range numbers {
		for size := 8; size <= 20; size++ {
			if got := octet.Get(octet.Put(n, size)); got != n {
				t.Errorf("%#x in %d bytes, back: %#x", n, size, got)
			}
		}
		for size := range 8 {
			want := n & (1<<(8*size) - 1)
			if got := octet.Get(octet.Put(n, size)); got != want {
				t.Errorf("%#x in %d bytes, back: %#x, want %#x", n, size, got, want)
			}
		}
	}
}

// TestBytesThereAndBack: 1.7 the other way, eight bytes are those of their number.
func TestBytesThereAndBack(t *testing.T) {
	for _, s := range []string{"\x00\x00\x00\x00\x00\x00\x00\x00", "abcdefgh", "\xff\x00\xff\x00\xff\x00\xff\x00"} {
		if got := octet.Put(octet.Get([]byte(s)), 8); string(got) != s {
			t.Errorf("%q, back: %q", s, got)
		}
	}
}

// TestJoin: 1.2, all parts, one behind the other.
func TestJoin(t *testing.T) {
	for _, c := range []struct {
		parts [][]byte
		want  string
	}{
		{nil, ""},
		{[][]byte{nil}, ""},
		{[][]byte{{}, nil, {}}, ""},
		{[][]byte{[]byte("a")}, "a"},
		{[][]byte{[]byte("ab"), []byte("c")}, "abc"},
		{[][]byte{nil, []byte("ab"), {}, []byte("c"), nil}, "abc"},
		{[][]byte{[]byte("c"), []byte("b"), []byte("a"), []byte("b")}, "cbab"},
	} {
		if got := octet.Join(c.parts...); string(got) != c.want {
			t.Errorf("Join(%q): %q, want %q", c.parts, got, c.want)
		}
	}
	if got := octet.Join(); len(got) != 0 {
		t.Errorf("Join(): %q", got)
	}
}

// TestPack: 1.2, of each part its length in four bytes, and it.
func TestPack(t *testing.T) {
	long := strings.Repeat("x", 70000)
	for _, c := range []struct {
		parts [][]byte
		want  string
	}{
		{nil, ""},
		{[][]byte{nil}, "\x00\x00\x00\x00"},
		{[][]byte{{}, nil}, "\x00\x00\x00\x00\x00\x00\x00\x00"},
		{[][]byte{[]byte("a")}, "\x00\x00\x00\x01a"},
		{[][]byte{[]byte("ab"), nil, []byte("c")}, "\x00\x00\x00\x02ab\x00\x00\x00\x00\x00\x00\x00\x01c"},
		{[][]byte{[]byte(long), []byte("z")}, "\x00\x01\x11\x70" + long + "\x00\x00\x00\x01z"},
	} {
		if got := octet.Pack(c.parts...); string(got) != c.want {
			t.Errorf("Pack of %d parts: %d bytes, want %d, or other ones", len(c.parts), len(got), len(c.want))
		}
	}
	if got := octet.Pack(); len(got) != 0 {
		t.Errorf("Pack(): %q", got)
	}
}

// lists is all lists of up to so many parts, each one of these.
func lists(parts []string, most int) [][]string {
	out := [][]string{nil}
	longest := out
	for range most {
		var next [][]string
		for _, l := range longest {
			for _, p := range parts {
				next = append(next, append(append([]string(nil), l...), p))
			}
		}
		out = append(out, next...)
		longest = next
	}
	return out
}

// asBytes is texts as rows of bytes.
func asBytes(texts []string) [][]byte {
	var out [][]byte
	for _, s := range texts {
		out = append(out, []byte(s))
	}
	return out
}

// TestUnlikePartsArePackedUnlike: 1.7, with parts that look like lengths, and parts without bytes.
func TestUnlikePartsArePackedUnlike(t *testing.T) {
	parts := []string{"", "\x00", "\x01", "\x00\x00", "\x00\x00\x00\x00", "\x00\x00\x00\x01", "\x00\x00\x00\x00\x00", "\x00\x00\x00\x01\x00", "a", "aa"}
	seen := map[string][]string{}
	for _, l := range lists(parts, 3) {
		packed := string(octet.Pack(asBytes(l)...))
		if other, twice := seen[packed]; twice {
			t.Fatalf("%q and %q are both packed as %q", other, l, packed)
		}
		seen[packed] = l
	}
}

// TestPackedIsReadBack: P8, what is packed is read as what it was.
func TestPackedIsReadBack(t *testing.T) {
	for _, l := range lists([]string{"", "\x00", "\x00\x00\x00\x01", "abc"}, 3) {
		r := octet.Read(octet.Pack(asBytes(l)...))
		for i, want := range l {
			if got := r.Text(4, 9); string(got) != want {
				t.Errorf("part %d of %q, back: %q", i, l, got)
			}
		}
		if c := r.End(); c != 0 {
			t.Errorf("%q, back: code %d", l, c)
		}
	}
}

// TestPartsStay: R3, parts are neither changed nor kept, and what lies behind them is not handed out.
func TestPartsStay(t *testing.T) {
	for _, c := range []struct {
		call func(...[]byte) []byte
		want string
	}{
		{octet.Join, "abc"},
		{octet.Pack, "\x00\x00\x00\x02ab\x00\x00\x00\x01c"},
	} {
		a, stayA := guarded(t, "ab")
		b, stayB := guarded(t, "c")
		parts := [][]byte{a, b}
		got := c.call(parts...)
		if string(got) != c.want {
			t.Errorf("%q, want %q", got, c.want)
		}
		if bytes.Contains(got[:cap(got)], []byte("behind")) {
			t.Error("what lies behind a part was handed out")
		}
		scribble(got)
		stayA()
		stayB()
		if &parts[0][0] != &a[0] || &parts[1][0] != &b[0] {
			t.Error("the list of parts was changed")
		}
	}
	one, stay := guarded(t, "only")
	scribble(octet.Join(one))
	stay()
	again := octet.Join(one)
	one[0] = 'X'
	if string(again) != "only" {
		t.Errorf("the answer is in the argument's memory: %q", again)
	}
}

// TestSame: 1.3.
func TestSame(t *testing.T) {
	for _, c := range []struct {
		a, b []byte
		want bool
	}{
		{nil, nil, true},
		{nil, []byte{}, true},
		{[]byte{}, nil, true},
		{nil, []byte{0}, false},
		{[]byte{0}, nil, false},
		{[]byte("abc"), []byte("abc"), true},
		{[]byte("abc"), []byte("abd"), false},
		{[]byte("xbc"), []byte("abc"), false},
		{[]byte("axc"), []byte("abc"), false},
		{[]byte("abc"), []byte("cba"), false},
		{[]byte("abc"), []byte("ab"), false},
		{[]byte("ab"), []byte("abc"), false},
		{[]byte{0, 0}, []byte{0}, false},
		// Differences that would cancel each other out if they were added up or exclusive-ored.
		{[]byte{1, 1}, []byte{0, 0}, false},
		{[]byte{1, 255}, []byte{0, 0}, false},
	} {
		if got := octet.Same(c.a, c.b); got != c.want {
			t.Errorf("Same(%v, %v): %v", c.a, c.b, got)
		}
	}
	for bit := range 8 {
		if octet.Same([]byte{0, 1 << bit, 0}, []byte{0, 0, 0}) {
			t.Errorf("bit %d is not looked at", bit)
		}
	}
}

// TestSameStaysInItsLength: R3, what lies behind the length does not count.
func TestSameStaysInItsLength(t *testing.T) {
	a := []byte("abc1")[:3]
	b := []byte("abc2")[:3]
	if !octet.Same(a, b) {
		t.Error("what lies behind the length counts")
	}
	if string(a[:4]) != "abc1" || string(b[:4]) != "abc2" {
		t.Error("what was handed in was changed")
	}
}

// TestXor: 1.3, as long as the shorter one.
func TestXor(t *testing.T) {
	for _, c := range []struct {
		a, b, want []byte
	}{
		{nil, nil, nil},
		{nil, []byte{1}, nil},
		{[]byte{1}, nil, nil},
		{[]byte{0xf0}, []byte{0xff}, []byte{0x0f}},
		{[]byte{1, 2, 3}, []byte{1, 2, 3}, []byte{0, 0, 0}},
		{[]byte{1, 2, 3}, []byte{0, 0, 0}, []byte{1, 2, 3}},
		{[]byte{1, 2, 4}, []byte{3}, []byte{2}},
		{[]byte{3}, []byte{1, 2, 4}, []byte{2}},
		{[]byte{0xaa, 0x55}, []byte{0x55, 0x55}, []byte{0xff, 0}},
	} {
		if got := octet.Xor(c.a, c.b); !bytes.Equal(got, c.want) {
			t.Errorf("Xor(%v, %v): %v, want %v", c.a, c.b, got, c.want)
		}
	}
}

// TestXorIsNew: R3.
func TestXorIsNew(t *testing.T) {
	a, stayA := guarded(t, "abcd")
	b, stayB := guarded(t, "ABC")
	got := octet.Xor(a, b)
	if string(got) != "   " {
		t.Errorf("%q", got)
	}
	scribble(got)
	stayA()
	stayB()
}

// TestHex: 1.4.
func TestHex(t *testing.T) {
	for _, c := range []struct {
		b    []byte
		want string
	}{
		{nil, ""},
		{[]byte{}, ""},
		{[]byte{0}, "00"},
		{[]byte{9, 10, 15, 16}, "090a0f10"},
		{[]byte{1, 255}, "01ff"},
		{[]byte{0xde, 0xad, 0xbe, 0xef}, "deadbeef"},
	} {
		if got := octet.Hex(c.b); got != c.want {
			t.Errorf("Hex(%v): %q, want %q", c.b, got, c.want)
		}
	}
	const digits = "0123456789abcdef"
	for x := range 256 {
		want := string(digits[x/16]) + string(digits[x%16])
		if got := octet.Hex([]byte{byte(x)}); got != want {
			t.Errorf("Hex(%d): %q, want %q", x, got, want)
		}
	}
}

// TestHexStays: R3.
func TestHexStays(t *testing.T) {
	b, stay := guarded(t, "\x01\x02")
	got := octet.Hex(b)
	stay()
	b[0] = 0xff
	if got != "0102" {
		t.Errorf("%q", got)
	}
}
