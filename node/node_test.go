package node_test

import (
	"bytes"
	"slices"
	"testing"

	"deedbox/api"
	"deedbox/node"
)

// row is so many bytes, of its own for each seed; none of them is nought.
func row(seed, length int) []byte {
	b := make([]byte, length)
	x := uint32(seed)*2654435761 + 12345
	for i := range b {
		x = x*1664525 + 1013904223
		b[i] = byte(x>>24) | 1
	}
	return b
}

// keyOf is a key of two bytes, which rises with its number.
func keyOf(i int) []byte { return []byte{byte(i >> 8), byte(i)} }

// pairOf is a pair that takes so many bytes, four at least, with a key of two bytes.
func pairOf(i, size int) api.Pair { return api.Pair{Key: keyOf(i), Value: row(i, size-4)} }

// kidOf is a kid that takes so many bytes, from 13 to 75, whose key rises with its number, and whose numbers are its own.
func kidOf(i, size int) api.Kid {
	return api.Kid{Key: append(keyOf(i), row(i, size-13)...), Page: (4000 + 7*i) % 4096, Epoch: 1 + i<<30}
}

// leafOf is a leaf whose pairs take so many bytes.
func leafOf(sizes ...int) api.Node {
	n := api.Node{Leaf: true}
	for i, size := range sizes {
		n.Pairs = append(n.Pairs, pairOf(i, size))
	}
	return n
}

// innerOf is a node whose kids take so many bytes.
func innerOf(sizes ...int) api.Node {
	n := api.Node{}
	for i, size := range sizes {
		n.Kids = append(n.Kids, kidOf(i, size))
	}
	return n
}

// bigPair is a pair that takes so many bytes, from 4 to 226.
func bigPair(i, size int) api.Pair {
	more := max(size-164, 0)
	p := pairOf(i, size-more)
	p.Key = append(p.Key, row(i, more)...)
	return p
}

// bigLeaf is a leaf whose pairs take so many bytes, up to 226 each.
func bigLeaf(sizes []int) api.Node {
	n := api.Node{Leaf: true}
	for i, size := range sizes {
		n.Pairs = append(n.Pairs, bigPair(i, size))
	}
	return n
}

// same tells whether two nodes are the same; a list that is nil and one without elements are.
func same(a, b api.Node) bool {
	return a.Leaf == b.Leaf && slices.EqualFunc(a.Pairs, b.Pairs, samePair) && slices.EqualFunc(a.Kids, b.Kids, sameKid)
}

func samePair(a, b api.Pair) bool { return bytes.Equal(a.Key, b.Key) && bytes.Equal(a.Value, b.Value) }

func sameKid(a, b api.Kid) bool {
	return bytes.Equal(a.Key, b.Key) && a.Page == b.Page && a.Epoch == b.Epoch
}

// zero tells whether a node has its zero value in each field.
func zero(n api.Node) bool { return same(n, api.Node{}) }

// TestLimits: the limits that the chapter names are api's.
func TestLimits(t *testing.T) {
	if api.MaxKey != 64 || api.MaxValue != 160 || api.Room != 496 || api.MaxBlocks != 4096 || api.MaxNum != 1<<40 {
		t.Errorf("%d, %d, %d, %d, %d", api.MaxKey, api.MaxValue, api.Room, api.MaxBlocks, api.MaxNum)
	}
}

// TestExample: the chapter's example, pairs a and c: b would stand at 1.
func TestExample(t *testing.T) {
	n := api.Node{Leaf: true, Pairs: []api.Pair{{Key: []byte("a")}, {Key: []byte("c")}}}
	if at, ok := node.Find(n, []byte("b")); at != 1 || ok {
		t.Errorf("%d, %t", at, ok)
	}
}

// TestSize: 18.1, by hand.
func TestSize(t *testing.T) {
	for _, c := range []struct {
		name string
		n    api.Node
		want int
	}{
		{"nothing", api.Node{}, 3},
		{"a leaf without pairs", api.Node{Leaf: true}, 3},
		{"lists without elements", api.Node{Leaf: true, Pairs: []api.Pair{}, Kids: []api.Kid{}}, 3},
		{"a pair without bytes", api.Node{Leaf: true, Pairs: []api.Pair{{}}}, 5},
		{"a key", api.Node{Leaf: true, Pairs: []api.Pair{{Key: []byte("abc")}}}, 8},
		{"a value", api.Node{Leaf: true, Pairs: []api.Pair{{Value: []byte("abcd")}}}, 9},
		{"a key and a value", api.Node{Leaf: true, Pairs: []api.Pair{{Key: []byte("abc"), Value: []byte("abcd")}}}, 12},
		{"two pairs", api.Node{Leaf: true, Pairs: []api.Pair{{Key: []byte("abc"), Value: []byte("abcd")}, {Key: []byte("b")}}}, 15},
		{"the longest pair", api.Node{Leaf: true, Pairs: []api.Pair{{Key: row(1, 64), Value: row(2, 160)}}}, 229},
		{"a kid without bytes", api.Node{Kids: []api.Kid{{}}}, 14},
		{"a kid", api.Node{Kids: []api.Kid{{Key: []byte("abc"), Page: 4095, Epoch: 1 << 40}}}, 17},
		{"two kids", api.Node{Kids: []api.Kid{{Key: []byte("abc")}, {Key: []byte("abcd")}}}, 32},
		{"the longest kid", api.Node{Kids: []api.Kid{{Key: row(1, 64)}}}, 78},
	} {
		if got := node.Size(c.n); got != c.want {
			t.Errorf("%s: %d, want %d", c.name, got, c.want)
		}
	}
}

// TestSizeOfAllKinds: 18.1, pairs and kids are counted whatever else is wrong: with both of them, with more bytes than there may be, with keys that do not rise.
func TestSizeOfAllKinds(t *testing.T) {
	for _, leaf := range []bool{false, true} {
		n := api.Node{Leaf: leaf, Pairs: []api.Pair{{Key: row(1, 300), Value: row(2, 500)}, {Key: []byte("a")}}, Kids: []api.Kid{{Key: row(3, 1000), Page: -1, Epoch: -1}, {}}}
		if got := node.Size(n); got != 3+2+800+2+1+11+1000+11 {
			t.Errorf("leaf %t: %d", leaf, got)
		}
	}
}

// TestSizeOfMany: 18.1, each pair and each kid counts, however many there are.
func TestSizeOfMany(t *testing.T) {
	leaf, inner := api.Node{Leaf: true}, api.Node{}
	pairs, kids := 3, 3
	for i := range 3000 {
		if got := node.Size(leaf); got != pairs {
			t.Fatalf("%d pairs: %d, want %d", i, got, pairs)
		}
		if got := node.Size(inner); got != kids {
			t.Fatalf("%d kids: %d, want %d", i, got, kids)
		}
		leaf.Pairs = append(leaf.Pairs, api.Pair{Key: row(i, i%65), Value: row(i, i%161)})
		inner.Kids = append(inner.Kids, api.Kid{Key: row(i, i%65)})
		pairs += 2 + i%65 + i%161
		kids += 11 + i%65
	}
}
