package tree

import (
	"slices"

	"deedbox/api"
	"deedbox/node"
)

// step is a node on the way from the root to a leaf: where it stands, how many bytes it took there, and below which of its kids the way goes on.
type step struct {
	at   api.Kid
	n    api.Node
	size int
	kid  int
}

// load is the node that stands on a page.
func load(p Pages, at api.Kid) (api.Node, api.Code) {
	if p == nil {
		return api.Node{}, api.ErrArg
	}
	b, code := p.Load(at.Page, at.Epoch)
	if code != api.OK {
		return api.Node{}, code
	}
	n, code := node.Get(b)
	if code != api.OK {
		return api.Node{}, code
	}
	// Such a node is right for its layer, but no way goes on from there.
	if !n.Leaf && len(n.Kids) == 0 {
		return api.Node{}, api.ErrForm
	}
	return n, api.OK
}

// top is where the root stands, if there is one.
func (t Tree) top() []api.Kid {
	if t.Root < 0 {
		return nil
	}
	return []api.Kid{{Page: t.Root, Epoch: t.Epoch}}
}

// descend is the way from the root to the leaf on which a key stands, or would. It ends at MaxHeight: pages that no tree stored may lead in a ring.
func (t Tree) descend(p Pages, key []byte) ([]step, api.Code) {
	var way []step
	for next := t.top(); len(next) > 0; {
		if len(way) == MaxHeight {
			return nil, api.ErrForm
		}
		n, code := load(p, next[0])
		if code != api.OK {
			return nil, code
		}
		s := step{at: next[0], n: n, size: node.Size(n), kid: node.Way(n, key)}
		way = append(way, s)
		next = n.Kids[s.kid:]
	}
	return way, api.OK
}

// leaf is where a way ends; a tree without pairs is taken as a leaf without pairs, that stands nowhere.
func leaf(way []step) api.Node {
	if len(way) == 0 {
		return api.Node{Leaf: true}
	}
	return way[len(way)-1].n
}

// walk goes through the pages below which keys from one on may stand, each ahead of its kids, as long as it is told to go on. No page is gone through twice: pages that no tree stored may lead in a ring.
func (t Tree) walk(p Pages, from []byte, on func(page int, n api.Node) bool) api.Code {
	gone := map[int]struct{}{}
	for todo := t.top(); len(todo) > 0; {
		at := todo[len(todo)-1]
		todo = todo[:len(todo)-1]
		if _, ok := gone[at.Page]; ok {
			return api.ErrForm
		}
		gone[at.Page] = struct{}{}
		n, code := load(p, at)
		if code != api.OK {
			return code
		}
		if !on(at.Page, n) {
			break
		}
		for _, k := range slices.Backward(n.Kids[node.Way(n, from):]) {
			todo = append(todo, k)
		}
	}
	return api.OK
}
