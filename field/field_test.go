package field_test

import (
	"bytes"
	"encoding/hex"
	"testing"

	"deedbox/field"
)

const (
	size = 16
	all  = 8 * size
)

// text is so many bytes, of which none repeats soon; another seed has others.
func text(n int, seed uint32) []byte {
	b := make([]byte, n)
	x := seed*2654435761 + 1
	for i := range b {
		x = x*1664525 + 1013904223
		b[i] = byte(x >> 24)
	}
	return b
}

// unhex is the bytes of digits of sixteen.
func unhex(t *testing.T, s string) []byte {
	t.Helper()
	b, err := hex.DecodeString(s)
	if err != nil {
		t.Fatal(err)
	}
	return b
}

// padded is sixteen bytes: noughts behind fewer, and none of more.
func padded(b []byte) []byte {
	out := make([]byte, size)
	copy(out, b)
	return out
}

// power is x^i, for i from 0 to 127.
func power(i int) field.Element {
	b := make([]byte, size)
	b[i/8] = 128 >> (i % 8)
	return field.From(b)
}

// filled is sixteen bytes that are alike.
func filled(c byte) []byte { return bytes.Repeat([]byte{c}, size) }

// some is elements of all kinds: nought, one, all bits, bytes alike, few bits at the ends of the words, and many unlike ones.
func some(n uint32) []field.Element {
	out := []field.Element{{}, field.From([]byte{128}), power(1), power(127), power(63), power(64)}
	for _, c := range []byte{0xff, 0x80, 1, 0xe1, 0x0f, 0xf0, 0xaa} {
		out = append(out, field.From(filled(c)), field.From([]byte{c}), field.From(append(make([]byte, size-1), c)))
	}
	for seed := range n {
		out = append(out, field.From(text(size, seed)))
	}
	return out
}

// scribble writes over an answer, and over what lies behind its length.
func scribble(b []byte) {
	b = b[:cap(b)]
	for i := range b {
		b[i] = 0xee
	}
}

// TestFromAndBytes: 5.1, of none, of fewer than sixteen bytes, of sixteen, and of more.
func TestFromAndBytes(t *testing.T) {
	for n := range 4*size + 2 {
		for seed := range uint32(8) {
			b := text(n, seed)
			if got := field.From(b).Bytes(); !bytes.Equal(got, padded(b)) {
				t.Errorf("From of %x: %x, want %x", b, got, padded(b))
			}
		}
	}
	for _, b := range [][]byte{nil, {}, {0}, make([]byte, size), make([]byte, size+1)} {
		if e := field.From(b); e != (field.Element{}) || !e.Zero() || !bytes.Equal(e.Bytes(), make([]byte, size)) {
			t.Errorf("From of %x: %x", b, e.Bytes())
		}
	}
}

// TestFromOfMore: 5.1, bytes behind the first sixteen count for nothing.
func TestFromOfMore(t *testing.T) {
	b := text(size, 1)
	want := field.From(b)
	for n := range 2 * size {
		for _, c := range []byte{0, 1, 0xff} {
			if got := field.From(append(bytes.Clone(b), bytes.Repeat([]byte{c}, n)...)); got != want {
				t.Errorf("with %d times %02x behind: %x, want %x", n, c, got.Bytes(), want.Bytes())
			}
		}
	}
}

// TestFirstBit: 5.1, the first bit is the highest one of the first byte.
func TestFirstBit(t *testing.T) {
	for i := range all {
		want := make([]byte, size)
		want[i/8] = 128 >> (i % 8)
		e := field.From([]byte{128})
		for range i {
			e = field.Times(e, power(1))
		}
		if !bytes.Equal(e.Bytes(), want) {
			t.Errorf("x^%d: %x, want %x", i, e.Bytes(), want)
		}
	}
}

// TestAdd: 5.1, both, exclusive-ored.
func TestAdd(t *testing.T) {
	elements := some(40)
	for _, a := range elements {
		for _, b := range elements {
			got := a.Add(b)
			for i, c := range got.Bytes() {
				if want := a.Bytes()[i] ^ b.Bytes()[i]; c != want {
					t.Fatalf("%x and %x: byte %d is %02x, want %02x", a.Bytes(), b.Bytes(), i, c, want)
				}
			}
			if got != b.Add(a) || got.Add(b) != a || got.Zero() != (a == b) {
				t.Fatalf("%x and %x: %x", a.Bytes(), b.Bytes(), got.Bytes())
			}
		}
		if a.Add(field.Element{}) != a || !a.Add(a).Zero() {
			t.Fatalf("%x with nought, or with itself", a.Bytes())
		}
	}
}

// TestZero: 5.1, each bit alone makes an element that is not nought.
func TestZero(t *testing.T) {
	var nought field.Element
	if !nought.Zero() {
		t.Error("the zero struct is not nought")
	}
	for i := range all {
		if e := power(i); e.Zero() || !e.Add(e).Zero() {
			t.Errorf("x^%d", i)
		}
	}
	for _, e := range some(40)[1:] {
		if e.Zero() {
			t.Errorf("%x is nought", e.Bytes())
		}
	}
}

// TestEqual: 5.1, two elements are equal by == just if all their bits are, wherever they come from.
func TestEqual(t *testing.T) {
	one := field.From([]byte{128})
	for _, e := range some(40) {
		same := []field.Element{
			field.From(e.Bytes()),
			field.From(append(e.Bytes(), 7)),
			e.Add(one).Add(one),
			field.Times(e, one),
			field.Build(one).Times(e),
			field.Build(e).Times(one),
			field.Build(one).Hash(e, make([]byte, size)),
		}
		for i, s := range same {
			if s != e {
				t.Errorf("%x, way %d: %x", e.Bytes(), i, s.Bytes())
			}
		}
		for i := range all {
			if o := e.Add(power(i)); o == e {
				t.Errorf("%x and %x are equal", e.Bytes(), o.Bytes())
			}
		}
	}
}

// TestEqualInAMap: 5.1, elements that are equal are one key of a map.
func TestEqualInAMap(t *testing.T) {
	seen := map[field.Element]int{}
	for i := range all {
		seen[power(i)]++
		seen[field.Times(power(i/2), power(i-i/2))]++
	}
	if len(seen) != all {
		t.Errorf("%d elements, want %d", len(seen), all)
	}
}

// TestFromStaysInItsLength: R3, what is handed in stays as it was, and what lies behind its length is not read.
func TestFromStaysInItsLength(t *testing.T) {
	for n := range 2*size + 1 {
		whole := text(3*size, 4)
		was := bytes.Clone(whole)
		e := field.From(whole[:n])
		if want := padded(was[:n]); !bytes.Equal(e.Bytes(), want) {
			t.Errorf("%d bytes with more behind: %x, want %x", n, e.Bytes(), want)
		}
		if !bytes.Equal(whole, was) {
			t.Errorf("%d bytes: what was handed in was changed: %x, was %x", n, whole, was)
		}
		clear(whole)
		if want := padded(was[:n]); !bytes.Equal(e.Bytes(), want) {
			t.Errorf("%d bytes: the element changes with what was handed in", n)
		}
	}
}

// TestBytesAreNew: R3, an answer that is written to changes nothing.
func TestBytesAreNew(t *testing.T) {
	want := text(size, 5)
	e := field.From(want)
	scribble(e.Bytes())
	if got := e.Bytes(); !bytes.Equal(got, want) {
		t.Errorf("%x, want %x", got, want)
	}
}
