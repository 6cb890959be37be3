package field_test

import (
	"encoding/hex"
	"testing"

	"deedbox/field"
)

// product is 5.2, word by word: each bit with each bit, and what stands before x^128 and more is taken off from the top.
func product(a, b field.Element) field.Element {
	var sum [2*all - 1]byte
	x, y := coefficients(a), coefficients(b)
	for i := range x {
		for j := range y {
			sum[i+j] ^= x[i] & y[j]
		}
	}
	for i := len(sum) - 1; i >= all; i-- {
		if sum[i] == 1 {
			for _, k := range []int{128, 7, 2, 1, 0} {
				sum[i-all+k] ^= 1
			}
		}
	}
	b16 := make([]byte, size)
	for i, c := range sum[:all] {
		b16[i/8] |= c << (7 - i%8)
	}
	return field.From(b16)
}

// coefficients is what stands before x^0, x^1 and so on.
func coefficients(e field.Element) [all]byte {
	var out [all]byte
	b := e.Bytes()
	for i := range out {
		out[i] = b[i/8] >> (7 - i%8) & 1
	}
	return out
}

// toTheLast is an element to the power of 2^128 - 2: the factors are its squares, but for the first one.
func toTheLast(e field.Element) field.Element {
	out := power(0)
	for range all - 1 {
		e = field.Times(e, e)
		out = field.Times(out, e)
	}
	return out
}

// TestExample: the chapter's example, the element of the byte 80 is one.
func TestExample(t *testing.T) {
	one := field.From([]byte{0x80})
	for _, e := range some(300) {
		for _, got := range []field.Element{
			field.Times(one, e),
			field.Times(e, one),
			field.Build(one).Times(e),
			field.Build(e).Times(one),
		} {
			if got != e {
				t.Errorf("%x times one: %x", e.Bytes(), got.Bytes())
			}
		}
	}
}

// TestKnownProducts: 5.2, what the tests of the standard's authors give, and the modulus itself.
func TestKnownProducts(t *testing.T) {
	for _, c := range []struct {
		a, b, want string
	}{
		{"0388dace60b6a392f328c2b971b2fe78", "66e94bd4ef8a2c3b884cfa59ca342b2e", "5e2ec746917062882c85b0685353deb7"},
		{"5e2ec746917062882c85b0685353de37", "66e94bd4ef8a2c3b884cfa59ca342b2e", "f38cbb1ad69223dcc3457ae5b6b0f885"},
		// x^127 times x is 1 + x + x^2 + x^7.
		{"00000000000000000000000000000001", "40000000000000000000000000000000", "e1000000000000000000000000000000"},
		// x^127 times x^2.
		{"00000000000000000000000000000001", "20000000000000000000000000000000", "70800000000000000000000000000000"},
		// x^63 times x goes from one word to the other.
		{"00000000000000010000000000000000", "40000000000000000000000000000000", "00000000000000008000000000000000"},
		// 1 + x, squared, is 1 + x^2.
		{"c0000000000000000000000000000000", "c0000000000000000000000000000000", "a0000000000000000000000000000000"},
	} {
		a, b := field.From(unhex(t, c.a)), field.From(unhex(t, c.b))
		for _, got := range []field.Element{field.Times(a, b), field.Times(b, a), field.Build(a).Times(b), field.Build(b).Times(a)} {
			if hex.EncodeToString(got.Bytes()) != c.want {
				t.Errorf("%s times %s: %x, want %s", c.a, c.b, got.Bytes(), c.want)
			}
		}
	}
}

// TestPowers: 5.2, each power of x times each, directly and by a table.
func TestPowers(t *testing.T) {
	for i := range all {
		table := field.Build(power(i))
		for j := range all {
			want := product(power(i), power(j))
			if got := field.Times(power(i), power(j)); got != want {
				t.Fatalf("x^%d times x^%d: %x, want %x", i, j, got.Bytes(), want.Bytes())
			}
			if got := table.Times(power(j)); got != want {
				t.Fatalf("x^%d times x^%d by a table: %x, want %x", i, j, got.Bytes(), want.Bytes())
			}
		}
	}
}

// TestAnyProduct: 5.2, of any two elements, directly and by a table; 5.4, either way round, and nought just if one of the two is.
func TestAnyProduct(t *testing.T) {
	elements := some(70)
	for _, a := range elements {
		table := field.Build(a)
		for _, b := range elements {
			want := product(a, b)
			if got := field.Times(a, b); got != want {
				t.Fatalf("%x times %x: %x, want %x", a.Bytes(), b.Bytes(), got.Bytes(), want.Bytes())
			}
			if got := table.Times(b); got != want {
				t.Fatalf("%x times %x by a table: %x, want %x", a.Bytes(), b.Bytes(), got.Bytes(), want.Bytes())
			}
			if got := field.Times(b, a); got != want {
				t.Fatalf("%x times %x is %x, the other way round %x", a.Bytes(), b.Bytes(), want.Bytes(), got.Bytes())
			}
			if got := want.Zero(); got != (a.Zero() || b.Zero()) {
				t.Fatalf("%x times %x: %x", a.Bytes(), b.Bytes(), want.Bytes())
			}
		}
	}
}

// TestFourBits: 5.2, each polynomial of four bits, wherever its bits stand in a factor.
func TestFourBits(t *testing.T) {
	for _, e := range []field.Element{power(0), power(124), power(127), field.From(text(size, 6)), field.From(filled(0xff))} {
		table := field.Build(e)
		for at := range 2 * size {
			for four := range 16 {
				b := make([]byte, size)
				b[at/2] = byte(four << (4 * (1 - at%2)))
				o := field.From(b)
				want := product(e, o)
				if got := table.Times(o); got != want {
					t.Fatalf("%x times %x by a table: %x, want %x", e.Bytes(), b, got.Bytes(), want.Bytes())
				}
				if got := field.Times(o, e); got != want {
					t.Fatalf("%x times %x: %x, want %x", b, e.Bytes(), got.Bytes(), want.Bytes())
				}
			}
		}
	}
}

// TestBracketsAndParts: 5.4, products go in any brackets, and part by part.
func TestBracketsAndParts(t *testing.T) {
	elements := some(12)
	for _, a := range elements {
		table := field.Build(a)
		for _, b := range elements {
			ab := field.Times(a, b)
			for _, c := range elements {
				if one, other := field.Times(ab, c), field.Times(a, field.Times(b, c)); one != other {
					t.Fatalf("%x, %x, %x: %x and %x", a.Bytes(), b.Bytes(), c.Bytes(), one.Bytes(), other.Bytes())
				}
				if one, other := field.Times(a, b.Add(c)), ab.Add(field.Times(a, c)); one != other {
					t.Fatalf("%x, %x, %x, part by part: %x and %x", a.Bytes(), b.Bytes(), c.Bytes(), one.Bytes(), other.Bytes())
				}
				if one, other := table.Times(b.Add(c)), table.Times(b).Add(table.Times(c)); one != other {
					t.Fatalf("%x, %x, %x, part by part by a table: %x and %x", a.Bytes(), b.Bytes(), c.Bytes(), one.Bytes(), other.Bytes())
				}
			}
		}
	}
}

// TestNought: 5.4, nought times any element is nought, directly and by a table.
func TestNought(t *testing.T) {
	nought := field.Build(field.Element{})
	for _, e := range some(100) {
		for _, got := range []field.Element{
			field.Times(field.Element{}, e),
			field.Times(e, field.Element{}),
			nought.Times(e),
			field.Build(e).Times(field.Element{}),
		} {
			if !got.Zero() {
				t.Errorf("nought times %x: %x", e.Bytes(), got.Bytes())
			}
		}
	}
}

// TestInverses: 5.4, each element but nought has one that times it is one; so a product with it can be undone.
func TestInverses(t *testing.T) {
	elements := some(100)
	for i := range all {
		elements = append(elements, power(i))
	}
	for _, e := range elements {
		if e.Zero() {
			continue
		}
		inverse := toTheLast(e)
		if got := field.Times(e, inverse); got != power(0) {
			t.Errorf("%x times %x: %x", e.Bytes(), inverse.Bytes(), got.Bytes())
		}
		other := field.From(text(size, 7))
		if got := field.Build(inverse).Times(field.Times(other, e)); got != other {
			t.Errorf("%x is not undone: %x, want %x", e.Bytes(), got.Bytes(), other.Bytes())
		}
	}
}

// TestTablesStay: R3 and P8, a table is neither changed by what is asked of it nor by other tables.
func TestTablesStay(t *testing.T) {
	e, o := field.From(text(size, 8)), field.From(text(size, 9))
	table, again := field.Build(e), field.Build(e)
	if table == nil || again == nil || table == again {
		t.Fatalf("%p and %p", table, again)
	}
	was := *table
	want := product(e, o)
	for range 3 {
		if got := table.Times(o); got != want {
			t.Errorf("%x, want %x", got.Bytes(), want.Bytes())
		}
		table.Hash(o, text(100, 10))
		field.Build(o).Times(e)
	}
	if *table != was || *again != was {
		t.Error("a table was changed")
	}
	*again = field.Table{}
	if got := table.Times(o); got != want {
		t.Errorf("with another table written over: %x, want %x", got.Bytes(), want.Bytes())
	}
	if e != field.From(text(size, 8)) || o != field.From(text(size, 9)) {
		t.Error("what was handed in was changed")
	}
}
