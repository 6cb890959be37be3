package node_test

import (
	"bytes"
	"testing"

	"deedbox/api"
	"deedbox/node"
)

// placeOf is the chapter's words of Find, looked for one by one.
func placeOf(n api.Node, key []byte) (int, bool) {
	for i, p := range n.Pairs {
		if string(p.Key) >= string(key) {
			return i, string(p.Key) == string(key)
		}
	}
	return len(n.Pairs), false
}

// wayOf is the chapter's words of Way.
func wayOf(n api.Node, key []byte) int {
	at := 0
	for i, k := range n.Kids {
		if string(k.Key) <= string(key) {
			at = i
		}
	}
	return at
}

// finds checks both against the chapter's words.
func finds(t *testing.T, leaf, inner api.Node, key []byte) {
	t.Helper()
	want, is := placeOf(leaf, key)
	if at, ok := node.Find(leaf, key); at != want || ok != is {
		t.Errorf("Find of %q in %d pairs: %d, %t; want %d, %t", key, len(leaf.Pairs), at, ok, want, is)
	}
	if at := node.Way(inner, key); at != wayOf(inner, key) {
		t.Errorf("Way of %q in %d kids: %d, want %d", key, len(inner.Kids), at, wayOf(inner, key))
	}
}

// TestFind: 18.5, by hand.
func TestFind(t *testing.T) {
	n := nodesOf("b", "bb", "d")[0]
	for _, c := range []struct {
		key  string
		want int
		is   bool
	}{
		{"", 0, false}, {"a", 0, false}, {"azzz", 0, false}, {"b", 0, true}, {"b\x00", 1, false}, {"ba", 1, false},
		{"bb", 1, true}, {"bb\x00", 2, false}, {"bc", 2, false}, {"c", 2, false}, {"d", 2, true}, {"d\x00", 3, false}, {"e", 3, false}, {"\xff", 3, false},
	} {
		if at, ok := node.Find(n, []byte(c.key)); at != c.want || ok != c.is {
			t.Errorf("%q: %d, %t; want %d, %t", c.key, at, ok, c.want, c.is)
		}
	}
	for _, key := range [][]byte{nil, {}, []byte("a")} {
		if at, ok := node.Find(api.Node{Leaf: true}, key); at != 0 || ok {
			t.Errorf("%q among none: %d, %t", key, at, ok)
		}
	}
}

// TestWay: 18.5, by hand; what is ahead of all kids goes to the first one.
func TestWay(t *testing.T) {
	n := nodesOf("b", "bb", "d")[1]
	for _, c := range []struct {
		key  string
		want int
	}{
		{"", 0}, {"a", 0}, {"azzz", 0}, {"b", 0}, {"b\x00", 0}, {"ba", 0}, {"bb", 1}, {"bb\x00", 1}, {"bc", 1}, {"c", 1}, {"d", 2}, {"d\x00", 2}, {"e", 2}, {"\xff", 2},
	} {
		if at := node.Way(n, []byte(c.key)); at != c.want {
			t.Errorf("%q: %d, want %d", c.key, at, c.want)
		}
	}
	for _, key := range [][]byte{nil, {}, []byte("a")} {
		if at := node.Way(api.Node{}, key); at != 0 {
			t.Errorf("%q among none: %d", key, at)
		}
	}
}

// TestNoKey: R3, a key that is nil is one without bytes, which is ahead of all others.
func TestNoKey(t *testing.T) {
	for _, first := range [][]byte{nil, {}} {
		leaf := api.Node{Leaf: true, Pairs: []api.Pair{{Key: first}, {Key: []byte{0}}}}
		inner := api.Node{Kids: []api.Kid{{Key: first}, {Key: []byte{0}}}}
		for _, key := range [][]byte{nil, {}} {
			if at, ok := node.Find(leaf, key); at != 0 || !ok || node.Way(inner, key) != 0 {
				t.Errorf("%d, %t, %d", at, ok, node.Way(inner, key))
			}
		}
		if node.Check(leaf) != api.OK || node.Check(inner) != api.OK {
			t.Error("its keys rise")
		}
	}
}

// universe is keys that rise, the beginning of others and bytes above 127 among them.
func universe() []string {
	return []string{"", "\x00", "\x00\x00", "\x01", "a", "a\x00", "aa", "ab", "b", "\x7f", "\x80", "\xff", "\xff\xff"}
}

// TestFindOfEachSet: 18.5, each key, in each set of keys.
func TestFindOfEachSet(t *testing.T) {
	all := universe()
	for set := range 1 << len(all) {
		var keys []string
		for i, k := range all {
			if set>>i&1 == 1 {
				keys = append(keys, k)
			}
		}
		l := nodesOf(keys...)
		for _, k := range all {
			finds(t, l[0], l[1], []byte(k))
		}
	}
}

// TestFindOfMany: 18.5, of any number of things, each key that is there, those about it, and those ahead of and behind all; more than a page has room for, too.
func TestFindOfMany(t *testing.T) {
	for _, count := range []int{1, 2, 3, 4, 5, 6, 7, 8, 9, 15, 16, 17, 31, 32, 33, 63, 64, 65, 122, 123, 300} {
		leaf, inner := api.Node{Leaf: true}, api.Node{}
		for i := range count {
			leaf.Pairs = append(leaf.Pairs, api.Pair{Key: keyOf(3*i + 3)})
			inner.Kids = append(inner.Kids, api.Kid{Key: keyOf(3*i + 3)})
		}
		for i := range 3*count + 6 {
			finds(t, leaf, inner, keyOf(i))
			finds(t, leaf, inner, append(keyOf(i), 0))
			finds(t, leaf, inner, keyOf(i)[:1])
		}
		finds(t, leaf, inner, nil)
		finds(t, leaf, inner, bytes.Repeat([]byte{255}, 200))
	}
}
