package tree

import (
	"maps"
	"slices"

	"deedbox/api"
	"deedbox/node"
)

// edit is what an act is to do to a change. But for pages that it takes it does nothing till it is known that all of it can be done.
type edit struct {
	change Change
	nodes  map[int]api.Node
	taken  []int
	given  []int
}

// changed is the tree within a change whose leaf, at the end of a way, is now another one.
func changed(c Change, way []step, n api.Node) (Tree, api.Code) {
	if c == nil {
		return Tree{}, api.ErrArg
	}
	e := &edit{change: c, nodes: map[int]api.Node{}}
	t, code := e.rise(way, n)
	if code == api.OK {
		code = e.do()
	}
	if code != api.OK {
		e.leave()
		return Tree{}, code
	}
	return t, api.OK
}

// rise goes the way back from its end to the root: each node above tells where the one below it stands now, and of which epoch.
func (e *edit) rise(way []step, n api.Node) (Tree, api.Code) {
	if len(way) == 0 {
		return e.plant(n)
	}
	for i := len(way) - 1; i > 0; i-- {
		var code api.Code
		if n, code = e.settle(way[i-1], way[i], n); code != api.OK {
			return Tree{}, code
		}
	}
	return e.crown(way[0].at.Page, n, len(way))
}

// plant is a tree of one leaf.
func (e *edit) plant(n api.Node) (Tree, api.Code) {
	page, code := e.take()
	if code != api.OK {
		return Tree{}, code
	}
	return e.root(page, n), api.OK
}

// settle has a node stand below the one above it again, that is then as it is answered: it may be in two parts, be one with another one, or be left out.
func (e *edit) settle(up, below step, n api.Node) (api.Node, api.Code) {
	size := node.Size(n)
	switch {
	case empty(n):
		e.give(below.at.Page)
		return above(slices.Delete(up.n.Kids, up.kid, up.kid+1)), api.OK
	case size > api.Room:
		kids, code := e.part(below.at, n)
		if code != api.OK {
			return api.Node{}, code
		}
		return above(slices.Replace(up.n.Kids, up.kid, up.kid+1, kids...)), api.OK
	case size < below.size:
		return e.join(up, n)
	}
	return e.keep(up.n.Kids, up.kid, n), api.OK
}

// keep stores one of the kids where it stood: the node above it.
func (e *edit) keep(kids []api.Kid, at int, n api.Node) api.Node {
	kids[at].Epoch = e.store(kids[at].Page, n)
	return above(kids)
}

// part stores a node that has no room in two parts: the first one where it stood, the other one on a page that is taken. It has two things at least, as none takes a whole page.
func (e *edit) part(at api.Kid, n api.Node) ([]api.Kid, api.Code) {
	page, code := e.take()
	if code != api.OK {
		return nil, code
	}
	ahead, behind, _ := node.Split(n)
	from := parting(ahead, behind)
	if !behind.Leaf {
		behind = above(behind.Kids)
	}
	at.Epoch = e.store(at.Page, ahead)
	return []api.Kid{at, {Key: from, Page: page, Epoch: e.store(page, behind)}}, api.OK
}

// join stores a node that takes less room than it did, as one with the one ahead of it, or behind it, if both have room on a page. So what is deleted gives pages back, and no page has to be taken for it.
func (e *edit) join(up step, n api.Node) (api.Node, api.Code) {
	kids := up.n.Kids
	for first := max(up.kid-1, 0); first <= min(up.kid, len(kids)-2); first++ {
		ahead, behind := n, n
		var code api.Code
		if first < up.kid {
			ahead, code = load(e.change, kids[first])
		} else {
			behind, code = load(e.change, kids[first+1])
		}
		if code != api.OK {
			return api.Node{}, code
		}
		if both, ok := joined(ahead, kids[first+1].Key, behind); ok {
			e.give(kids[first+1].Page)
			return e.keep(slices.Delete(kids, first+1, first+2), first, both), api.OK
		}
	}
	return e.keep(kids, up.kid, n), api.OK
}

// crown is the tree of a root that stood on a page, so many pages high: it grows by one more, or is lower by those that have one kid alone (it ends at MaxHeight, as descend does).
func (e *edit) crown(page int, n api.Node, height int) (Tree, api.Code) {
	for range MaxHeight {
		if len(n.Kids) != 1 {
			break
		}
		e.give(page)
		page = n.Kids[0].Page
		var code api.Code
		if n, code = e.load(n.Kids[0]); code != api.OK {
			return Tree{}, code
		}
	}
	if empty(n) {
		e.give(page)
		return Tree{Root: noRoot}, api.OK
	}
	if node.Size(n) > api.Room {
		return e.grow(page, n, height)
	}
	// A root is always of the change's epoch, as the anchor takes it to be of that.
	return e.root(page, n), api.OK
}

// grow is the tree of a root that has no room: another one stands above its two parts.
func (e *edit) grow(page int, n api.Node, height int) (Tree, api.Code) {
	kids, code := e.part(api.Kid{Page: page}, n)
	if code != api.OK {
		return Tree{}, code
	}
	root, code := e.take()
	if code != api.OK {
		return Tree{}, code
	}
	if height >= MaxHeight {
		return Tree{}, api.ErrFull
	}
	return e.root(root, above(kids)), api.OK
}

func (e *edit) root(page int, n api.Node) Tree {
	return Tree{Root: page, Epoch: e.store(page, n)}
}

// load is a node as it is behind what is to be done.
func (e *edit) load(at api.Kid) (api.Node, api.Code) {
	if n, ok := e.nodes[at.Page]; ok {
		return n, api.OK
	}
	return load(e.change, at)
}

// store has a node stand on a page: the epoch of that.
func (e *edit) store(page int, n api.Node) int {
	e.nodes[page] = n
	return e.change.Epoch()
}

func (e *edit) take() (int, api.Code) {
	page, code := e.change.Take(1)
	if code == api.OK {
		e.taken = append(e.taken, page)
	}
	return page, code
}

func (e *edit) give(page int) {
	delete(e.nodes, page)
	e.given = append(e.given, page)
}

// do stores all nodes, and gives back the pages that have none any more.
func (e *edit) do() api.Code {
	pages := slices.Sorted(maps.Keys(e.nodes))
	var packed [][]byte
	for _, page := range pages {
		b, code := node.Put(e.nodes[page])
		if code != api.OK {
			return code
		}
		packed = append(packed, b)
	}
	for i, page := range pages {
		if code := e.change.Store(page, packed[i]); code != api.OK {
			return code
		}
	}
	for _, page := range e.given {
		e.change.Give(page, 1)
	}
	return api.OK
}

// leave gives back what was taken: the tree is as it was, and has nothing of it.
func (e *edit) leave() {
	for _, page := range e.taken {
		e.change.Give(page, 1)
	}
}
