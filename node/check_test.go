package node_test

import (
	"math"
	"slices"
	"strconv"
	"testing"

	"deedbox/api"
	"deedbox/node"
)

// wrong is a node with something wrong, and the code of what is named first.
type wrong struct {
	name string
	n    api.Node
	code api.Code
}

// long is a pair whose key has one byte too many; wide one whose value has.
func long(i int) api.Pair { return api.Pair{Key: append(keyOf(i), row(i, 63)...)} }

func wide(i int) api.Pair { return api.Pair{Key: keyOf(i), Value: row(i, 161)} }

// strange is a kid whose page there is not; tall one whose key has one byte too many.
func strange(i int) api.Kid { return api.Kid{Key: keyOf(i), Page: 4096} }

func tall(i int) api.Kid { return api.Kid{Key: append(keyOf(i), row(i, 63)...)} }

// withPair is a leaf with a pair put at a place of it, withKid a node with such a kid.
func withPair(n api.Node, i int, p api.Pair) api.Node {
	n.Pairs = slices.Clone(n.Pairs)
	n.Pairs[i] = p
	return n
}

func withKid(n api.Node, i int, k api.Kid) api.Node {
	n.Kids = slices.Clone(n.Kids)
	n.Kids[i] = k
	return n
}

// wrongSizes is nodes with a key or a value that is too long, at each place of five.
func wrongSizes() []wrong {
	var l []wrong
	leaf, inner := leafOf(4, 5, 6, 7, 8), innerOf(13, 14, 15, 16, 17)
	for i := range 5 {
		for _, length := range []int{65, 66, 127, 128, 255, 256, 257, 1000, 65536, 65600} {
			key := append(keyOf(i), row(i, length-2)...)
			l = append(l, wrong{"a pair's key", withPair(leaf, i, api.Pair{Key: key}), api.ErrSize})
			l = append(l, wrong{"a kid's key", withKid(inner, i, api.Kid{Key: key}), api.ErrSize})
		}
		for _, length := range []int{161, 162, 255, 256, 257, 416, 1000, 65536, 65600} {
			l = append(l, wrong{"a value", withPair(leaf, i, api.Pair{Key: keyOf(i), Value: row(i, length)}), api.ErrSize})
		}
	}
	return l
}

// wrongNumbers is nodes with a number out of range, at each place of five.
func wrongNumbers() []wrong {
	var l []wrong
	inner := innerOf(13, 14, 15, 16, 17)
	for i := range 5 {
		for _, page := range []int{-1, -2, -4096, math.MinInt, math.MinInt + 1, 4096, 4097, 65535, 65536, 65536 + 7, 1 << 32, 1<<32 + 7, math.MaxInt} {
			l = append(l, wrong{"a page", withKid(inner, i, api.Kid{Key: keyOf(i), Page: page}), api.ErrRange})
		}
		for _, epoch := range []int{-1, -2, -1 << 40, math.MinInt, math.MinInt + 1, 1<<40 + 1, 1<<40 + 2, 1 << 41, 1<<62 - 1, 1 << 62, 1<<62 + 1, math.MaxInt} {
			l = append(l, wrong{"an epoch", withKid(inner, i, api.Kid{Key: keyOf(i), Epoch: epoch}), api.ErrRange})
		}
	}
	return l
}

// falls is keys of which the first one is not ahead of the second one.
func falls() [][2]string {
	return [][2]string{
		{"", ""}, {"a", ""}, {"a", "a"}, {"b", "a"}, {"ab", "a"}, {"a\x00", "a"}, {"ab", "aa"}, {"ab", "ab"}, {"b", "aaaa"},
		{"\x80", "\x7f"}, {"\xff", "\x00"}, {"\xff", "a"}, {"a\xff", "a\x01z"}, {"\x00\x00", "\x00"}, {"a", "A"}, {"9", "10"},
	}
}

// nodesOf is a leaf and another node with keys in that order, and with the rest put by their places.
func nodesOf(keys ...string) []api.Node {
	leaf, inner := api.Node{Leaf: true}, api.Node{}
	for i, k := range keys {
		leaf.Pairs = append(leaf.Pairs, api.Pair{Key: []byte(k), Value: row(i, i%5)})
		inner.Kids = append(inner.Kids, api.Kid{Key: []byte(k), Page: 30 + i, Epoch: 5 * i})
	}
	return []api.Node{leaf, inner}
}

// wrongOrders is nodes whose keys do not rise.
func wrongOrders() []wrong {
	var l []wrong
	for _, f := range falls() {
		for _, n := range nodesOf(f[0], f[1]) {
			l = append(l, wrong{"keys " + strconv.Quote(f[0]) + ", " + strconv.Quote(f[1]), n, api.ErrForm})
		}
	}
	// The keys at i and one further on are put in each other's place, or are alike.
	for i := range 7 {
		keys := []string{"a", "b", "c", "d", "e", "f", "g", "h"}
		keys[i], keys[i+1] = keys[i+1], keys[i]
		for _, n := range nodesOf(keys...) {
			l = append(l, wrong{"keys changed about", n, api.ErrForm})
		}
		keys[i] = keys[i+1]
		for _, n := range nodesOf(keys...) {
			l = append(l, wrong{"keys alike", n, api.ErrForm})
		}
	}
	return l
}

// wrongMore is nodes with pairs and kids where there may not be any, and nodes that are full.
func wrongMore() []wrong {
	l := []wrong{
		{"a leaf with a kid", api.Node{Leaf: true, Kids: []api.Kid{{}}}, api.ErrForm},
		{"a leaf with both", api.Node{Leaf: true, Pairs: []api.Pair{{}}, Kids: []api.Kid{{}}}, api.ErrForm},
		{"another one with a pair", api.Node{Pairs: []api.Pair{{}}}, api.ErrForm},
		{"another one with both", api.Node{Pairs: []api.Pair{{}}, Kids: []api.Kid{{}}}, api.ErrForm},
		{"one byte too many in pairs", leafOf(160, 160, 160, 14), api.ErrFull},
		{"one byte too many in kids", innerOf(75, 75, 75, 75, 75, 75, 44), api.ErrFull},
		{"the longest pairs", leafOf(164, 164, 164, 164, 164), api.ErrFull},
		{"the longest kids", innerOf(75, 75, 75, 75, 75, 75, 75), api.ErrFull},
	}
	for count := 124; count < 400; count += 25 {
		l = append(l, wrong{"many pairs", leafOf(slices.Repeat([]int{4}, count)...), api.ErrFull})
	}
	for count := 38; count < 400; count += 25 {
		l = append(l, wrong{"many kids", innerOf(slices.Repeat([]int{13}, count)...), api.ErrFull})
	}
	return l
}

// wrongs is nodes with one thing wrong each.
func wrongs() []wrong {
	return slices.Concat(wrongSizes(), wrongNumbers(), wrongOrders(), wrongMore())
}

// mixed is nodes with several things wrong.
func mixed() []wrong {
	a, z := keyOf(0), keyOf(9)
	var full, crowd []api.Pair
	for i := range 300 {
		full = append(full, pairOf(i, 10))
	}
	for i := range 60 {
		crowd = append(crowd, pairOf(60-i, 10))
	}
	fullKids, crowdKids := innerOf(slices.Repeat([]int{13}, 60)...), innerOf(slices.Repeat([]int{13}, 60)...)
	slices.Reverse(crowdKids.Kids)
	return []wrong{
		{"kids of a leaf ahead of a long key", api.Node{Leaf: true, Pairs: []api.Pair{long(0)}, Kids: []api.Kid{{}}}, api.ErrForm},
		{"kids of a leaf ahead of what is wrong in them", api.Node{Leaf: true, Kids: []api.Kid{strange(0), tall(1)}}, api.ErrForm},
		{"pairs of another one ahead of what is wrong in them", api.Node{Pairs: []api.Pair{wide(0), long(1)}}, api.ErrForm},
		{"pairs of another one ahead of a page", api.Node{Pairs: []api.Pair{{}}, Kids: []api.Kid{strange(0)}}, api.ErrForm},
		{"pairs of another one ahead of being full", api.Node{Pairs: full}, api.ErrForm},
		{"a long key ahead of the order", api.Node{Leaf: true, Pairs: []api.Pair{{Key: z}, {Key: a}, long(1)}}, api.ErrSize},
		{"a long value ahead of the order", api.Node{Leaf: true, Pairs: []api.Pair{wide(5), wide(5)}}, api.ErrSize},
		{"a long value ahead of being full", api.Node{Leaf: true, Pairs: slices.Concat(full, []api.Pair{wide(500)})}, api.ErrSize},
		{"the order of pairs ahead of being full", api.Node{Leaf: true, Pairs: crowd}, api.ErrForm},
		{"a kid's key ahead of its page", api.Node{Kids: []api.Kid{{Key: tall(0).Key, Page: -1}}}, api.ErrSize},
		{"a kid's key ahead of its epoch", api.Node{Kids: []api.Kid{{Key: tall(0).Key, Epoch: -1}}}, api.ErrSize},
		{"the first kid's page ahead of the last one's key", api.Node{Kids: []api.Kid{strange(0), tall(1)}}, api.ErrRange},
		{"the first kid's epoch ahead of the last one's key", api.Node{Kids: []api.Kid{{Key: a, Epoch: -1}, tall(1)}}, api.ErrRange},
		{"the first kid's key ahead of the last one's page", api.Node{Kids: []api.Kid{tall(0), strange(1)}}, api.ErrSize},
		{"a page ahead of the order", api.Node{Kids: []api.Kid{{Key: z}, {Key: a}, strange(1)}}, api.ErrRange},
		{"a kid's key ahead of the order", api.Node{Kids: []api.Kid{{Key: z}, {Key: a}, tall(1)}}, api.ErrSize},
		{"an epoch ahead of being full", api.Node{Kids: slices.Concat(fullKids.Kids, []api.Kid{{Key: keyOf(500), Epoch: 1<<40 + 1}})}, api.ErrRange},
		{"the order of kids ahead of being full", crowdKids, api.ErrForm},
	}
}

// rights is nodes with nothing wrong: with none, with one of each length, with numbers at their ends, in all kinds of order that rise, and full ones.
func rights() []api.Node {
	l := []api.Node{{}, {Leaf: true}, leafOf(160, 160, 160, 13), bigLeaf([]int{226, 226, 41}), innerOf(75, 75, 75, 75, 75, 75, 43)}
	for length := range 65 {
		l = append(l, api.Node{Leaf: true, Pairs: []api.Pair{{Key: row(1, length), Value: row(2, 64-length)}}})
		l = append(l, api.Node{Kids: []api.Kid{{Key: row(1, length), Page: 63 * length, Epoch: length << 34}}})
	}
	for length := range 161 {
		l = append(l, api.Node{Leaf: true, Pairs: []api.Pair{{Key: row(1, 3), Value: row(2, length)}}})
	}
	for _, page := range []int{0, 1, 255, 256, 4094, 4095} {
		for _, epoch := range []int{0, 1, 255, 256, 1<<32 - 1, 1 << 32, 1<<40 - 1, 1 << 40} {
			l = append(l, api.Node{Kids: []api.Kid{{Key: []byte("a")}, {Key: []byte("b"), Page: page, Epoch: epoch}}})
		}
	}
	for _, f := range falls() {
		if f[0] != f[1] {
			l = append(l, nodesOf(f[1], f[0])...)
		}
	}
	for count := range 38 {
		l = append(l, leafOf(slices.Repeat([]int{13}, count)...), innerOf(slices.Repeat([]int{13}, count)...))
	}
	return append(l, leafOf(slices.Repeat([]int{4}, 123)...))
}

// TestCheckRight: 18.2, nodes with nothing wrong, up to the last byte of room.
func TestCheckRight(t *testing.T) {
	most := 0
	for _, n := range rights() {
		if code := node.Check(n); code != api.OK {
			t.Errorf("%+v: code %d", n, code)
		}
		most = max(most, node.Size(n))
	}
	if most != 496 {
		t.Errorf("the greatest one takes %d bytes", most)
	}
}

// TestCheckWrong: 18.2, each thing that may be wrong, alone.
func TestCheckWrong(t *testing.T) {
	for _, w := range wrongs() {
		if code := node.Check(w.n); code != w.code {
			t.Errorf("%s, %+v: code %d, want %d", w.name, w.n, code, w.code)
		}
	}
}

// TestCheckOrder: 18.2 and R6, of several things that are wrong the one that is named first is told.
func TestCheckOrder(t *testing.T) {
	for _, w := range mixed() {
		if code := node.Check(w.n); code != w.code {
			t.Errorf("%s: code %d, want %d", w.name, code, w.code)
		}
	}
}

// TestCheckFull: 18.2, a node is full from the first byte above its room on, wherever that byte is.
func TestCheckFull(t *testing.T) {
	for size := 10; size <= 164; size++ {
		rest := 493 - 164 - size
		for more := range 3 {
			n := leafOf(164, size, rest/2, rest-rest/2+more)
			want := api.OK
			if more > 0 {
				want = api.ErrFull
			}
			if code := node.Check(n); code != want || node.Size(n) != 496+more {
				t.Errorf("%d bytes: code %d, want %d", node.Size(n), code, want)
			}
		}
	}
}
