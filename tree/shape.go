package tree

import (
	"slices"

	"deedbox/api"
	"deedbox/node"
)

// empty tells whether a node has nothing at all.
func empty(n api.Node) bool { return len(n.Pairs) == 0 && len(n.Kids) == 0 }

// above is the node above kids. Below the first one stands all that is ahead of the second one: it needs no key, and whichever kid becomes the first one loses its own.
func above(kids []api.Kid) api.Node {
	if len(kids) > 0 {
		kids[0].Key = nil
	}
	return api.Node{Kids: kids}
}

// parting is a key from which on the second one of two nodes has its things. As short as can be it leaves more room for kids.
func parting(ahead, behind api.Node) []byte {
	if !behind.Leaf {
		return behind.Kids[0].Key
	}
	last, first := ahead.Pairs[len(ahead.Pairs)-1].Key, behind.Pairs[0].Key
	return first[:common(last, first)+1]
}

// common is how many bytes two keys have in common at their beginnings.
func common(a, b []byte) int {
	n := 0
	for n < min(len(a), len(b)) && a[n] == b[n] {
		n++
	}
	return n
}

// joined is two nodes as one, the second one's things standing from a key on; false, if that has no room, or they are of two kinds.
func joined(ahead api.Node, from []byte, behind api.Node) (api.Node, bool) {
	kids := slices.Clone(behind.Kids)
	if len(kids) > 0 {
		kids[0].Key = from
	}
	n := api.Node{
		Leaf:  ahead.Leaf,
		Pairs: slices.Concat(ahead.Pairs, behind.Pairs),
		Kids:  slices.Concat(ahead.Kids, kids),
	}
	return n, ahead.Leaf == behind.Leaf && node.Size(n) <= api.Room
}
