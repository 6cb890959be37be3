package node_test

import (
	"slices"
	"strings"
	"testing"

	"deedbox/api"
	"deedbox/node"
)

// count is how many things a node has; cut is its first so many ones, and all others.
func count(n api.Node) int { return len(n.Pairs) + len(n.Kids) }

func cut(n api.Node, at int) (api.Node, api.Node) {
	if n.Leaf {
		return api.Node{Leaf: true, Pairs: n.Pairs[:at]}, api.Node{Leaf: true, Pairs: n.Pairs[at:]}
	}
	return api.Node{Kids: n.Kids[:at]}, api.Node{Kids: n.Kids[at:]}
}

// placeToCut is the chapter's words of where a node is parted: each place is tried.
func placeToCut(n api.Node) int {
	best, least := 0, 0
	for at := 1; at < count(n); at++ {
		a, b := cut(n, at)
		if size := max(len(open(a)), len(open(b))); best == 0 || size < least {
			best, least = at, size
		}
	}
	return best
}

// splits checks how a node is parted.
func splits(t *testing.T, n api.Node, at int) {
	t.Helper()
	a, b, ok := node.Split(n)
	if at == 0 {
		if ok || !zero(a) || !zero(b) {
			t.Errorf("%d things: %+v, %+v, %t; want nothing", count(n), a, b, ok)
		}
		return
	}
	first, rest := cut(n, at)
	if !ok || !same(a, first) || !same(b, rest) {
		t.Errorf("%d things, leaf %t: parted at %d (%d behind), %t; want %d", count(n), n.Leaf, count(a), count(b), ok, at)
	}
}

// TestSplit: 18.6, by hand: the first place where the greater part is least.
func TestSplit(t *testing.T) {
	for _, c := range []struct {
		sizes []int
		at    int
	}{
		{nil, 0},
		{[]int{20}, 0},
		{[]int{20, 20}, 1},
		{[]int{75, 13}, 1},
		{[]int{13, 75}, 1},
		// Of places that are as good the first one.
		{[]int{20, 20, 20}, 1},
		{[]int{20, 20, 20, 20}, 2},
		{[]int{20, 20, 20, 20, 20}, 2},
		{[]int{20, 30, 20}, 1},
		{[]int{50, 20, 20}, 1},
		{[]int{20, 20, 50}, 2},
		{[]int{20, 21, 20, 21, 20}, 2},
		{[]int{13, 13, 13, 13, 75}, 4},
		{[]int{75, 13, 13, 13, 13}, 1},
		{[]int{60, 13, 13, 13, 60}, 2},
		{[]int{60, 13, 13, 14, 60}, 3},
		{[]int{60, 14, 13, 13, 60}, 2},
		// The sizes count, not how many things there are.
		{[]int{60, 40, 13, 13, 13, 13, 13}, 2},
		{[]int{13, 13, 13, 13, 13, 40, 60}, 5},
	} {
		splits(t, leafOf(c.sizes...), c.at)
		splits(t, innerOf(c.sizes...), c.at)
	}
	splits(t, leafOf(164, 4, 4, 4, 4, 164), 3)
	splits(t, leafOf(4, 4, 164), 2)
	splits(t, leafOf(4, 164, 4), 1)
}

// TestSplitLongKeys: 18.6, keys count as values do.
func TestSplitLongKeys(t *testing.T) {
	for length := 1; length <= 64; length++ {
		at := 1
		if length < 19 {
			at = 2
		}
		for _, n := range nodesOf(strings.Repeat("a", length), "b", strings.Repeat("c", 19)) {
			for i := range n.Pairs {
				n.Pairs[i].Value = nil
			}
			splits(t, n, at)
		}
	}
}

// eachRow hands on each row of up to most things of these sizes.
func eachRow(sizes []int, most int, do func([]int)) {
	var from func(row []int)
	from = func(row []int) {
		do(row)
		if len(row) == most {
			return
		}
		for _, size := range sizes {
			from(append(slices.Clone(row), size))
		}
	}
	from(nil)
}

// TestSplitOfEachRow: 18.6, each row of up to seven things of a few sizes, against the chapter's words.
func TestSplitOfEachRow(t *testing.T) {
	eachRow([]int{13, 14, 30, 75}, 7, func(sizes []int) {
		n, m := leafOf(sizes...), innerOf(sizes...)
		splits(t, n, placeToCut(n))
		splits(t, m, placeToCut(m))
	})
}

// TestSplitFull: 18.6, nodes that are full, up to such as no page is near to.
func TestSplitFull(t *testing.T) {
	for _, many := range []int{7, 38, 124, 200} {
		for _, sizes := range [][]int{{13}, {75}, {13, 75}, {75, 13, 13}} {
			all := slices.Repeat(sizes, many)
			splits(t, leafOf(all...), placeToCut(leafOf(all...)))
			splits(t, innerOf(all...), placeToCut(innerOf(all...)))
		}
	}
	n := leafOf(slices.Repeat([]int{10}, 60001)...)
	if a, b, ok := node.Split(n); !ok || len(a.Pairs) != 30000 || len(b.Pairs) != 30001 {
		t.Errorf("%d, %d, %t", len(a.Pairs), len(b.Pairs), ok)
	}
}

// hasRoom tells whether a node has room in a page.
func hasRoom(n api.Node) bool { return node.Check(n) == api.OK }

// partsHaveRoom checks that a node is right, or full, and that each part of it has room.
func partsHaveRoom(t *testing.T, n api.Node) {
	t.Helper()
	if code := node.Check(n); code != api.OK && code != api.ErrFull {
		t.Fatalf("%+v: code %d", n, code)
	}
	a, b, ok := node.Split(n)
	if ok != (count(n) > 1) || ok && (!hasRoom(a) || !hasRoom(b) || count(a) == 0 || count(b) == 0) {
		t.Errorf("%d things: %d bytes and %d bytes, %t", count(n), node.Size(a), node.Size(b), ok)
	}
	if !ok && !hasRoom(n) {
		t.Errorf("%d things: neither parted, nor has it room", count(n))
	}
}

// TestOneMore: 18.7, a node that has room, and one thing more at each place of it, of each size: each part has room.
func TestOneMore(t *testing.T) {
	tried := 0
	eachRow([]int{4, 40, 113, 164, 226}, 6, func(sizes []int) {
		if !hasRoom(bigLeaf(sizes)) {
			return
		}
		for at := range len(sizes) + 1 {
			for _, more := range []int{4, 41, 164, 225, 226} {
				partsHaveRoom(t, bigLeaf(slices.Insert(slices.Clone(sizes), at, more)))
				tried++
			}
		}
	})
	for at := range 8 {
		for more := 13; more <= 75; more++ {
			partsHaveRoom(t, innerOf(slices.Insert([]int{75, 75, 75, 75, 75, 75, 43}, at, more)...))
		}
	}
	if tried < 1000 {
		t.Errorf("%d nodes alone", tried)
	}
}

// TestOneMoreOfFull: 18.7, the same of nodes of three that have no byte left, with all sizes about their middle.
func TestOneMoreOfFull(t *testing.T) {
	for first := 41; first <= 226; first++ {
		for second := 41; second <= 226; second += 5 {
			third := 493 - first - second
			if third < 4 || third > 226 {
				continue
			}
			for at := range 4 {
				partsHaveRoom(t, bigLeaf(slices.Insert([]int{first, second, third}, at, 226)))
			}
		}
	}
}
