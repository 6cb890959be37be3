package field

const (
	// stepBits is how many bits of a factor are taken at a time; steps how many polynomials have so many.
	stepBits = 4
	steps    = 1 << stepBits
)

// Table is what an element is, times each polynomial of four bits.
type Table struct {
	// The place of a product is the polynomial's bits, the first one the highest, as they stand in an element's words.
	products [steps]Element
}

// Build is an element's table.
func Build(e Element) *Table {
	t := &Table{}
	for i := steps / 2; i > 0; i /= 2 {
		t.products[i] = e
		e = e.raised(1)
	}
	for i := 1; i < steps; i++ {
		last := i & -i
		t.products[i] = t.products[i-last].Add(t.products[last])
	}
	return t
}

// Times is an element times that of a table.
func (t *Table) Times(e Element) Element {
	return t.taken(t.taken(Element{}, e.lo), e.hi)
}

// taken is a product so far with the bits of one more word taken. The highest powers, which stand last, come first: each step raises all that came ahead of it.
func (t *Table) taken(product Element, word uint64) Element {
	for range wordBits / stepBits {
		product = product.raised(stepBits).Add(t.products[word%steps])
		word /= steps
	}
	return product
}

// Hash is a row of blocks under a table: each one is added, and all multiplied; the last one has noughts behind.
func (t *Table) Hash(from Element, b []byte) Element {
	for len(b) > 0 {
		from = t.Times(from.Add(From(b)))
		b = b[min(size, len(b)):]
	}
	return from
}
