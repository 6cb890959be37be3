package anchor

import (
	"deedbox/api"
	"deedbox/cell"
)

// places is how many sectors anchors take, by turns: while one is written, the other one has the anchor that counts.
const places = 2

// Keeper is a cell, and the anchor that counts.
type Keeper struct {
	*cell.Cell
	// last has the number 0 as long as none counts: no anchor that was written has it.
	last api.Anchor
}

// Open is the keeper of a cell: the anchor with the greater number counts.
func Open(c *cell.Cell) (*Keeper, api.Code) {
	if c == nil {
		return nil, api.ErrArg
	}
	k := &Keeper{Cell: c}
	for at := range places {
		b, code := k.Read(at)
		if code != api.OK {
			return nil, code
		}
		// What is no anchor reads as the zero one, whose number is greater than none.
		if a, _ := Get(b); a.Seq > k.last.Seq {
			k.last = a
		}
	}
	return k, api.OK
}

// Last is the anchor that counts; false: there is none.
func (k *Keeper) Last() (api.Anchor, bool) { return Copy(k.last), k.counts() }

func (k *Keeper) counts() bool { return k.last.Seq > 0 }

// Save writes an anchor, with the next number, to the place that has not the one that counts.
func (k *Keeper) Save(a api.Anchor) api.Code {
	a.Seq = k.last.Seq + 1
	b, code := Put(a)
	if code != api.OK {
		return code
	}
	if code := k.put(a.Seq%places, b); code != api.OK {
		return code
	}
	k.last = Copy(a)
	return api.OK
}

// put writes a sector. A keeper that Open did not make has no cell, and so no power.
func (k *Keeper) put(at int, b []byte) api.Code {
	if k.Cell == nil {
		return api.ErrDown
	}
	return k.Write(at, b)
}

// Give gives an epoch that was never given: it is used up, whatever comes of it.
func (k *Keeper) Give() (int, api.Code) {
	if !k.counts() {
		return 0, api.ErrNone
	}
	a := k.last
	a.Given++
	if code := k.Save(a); code != api.OK {
		return 0, code
	}
	return a.Given, api.OK
}

// Commit has an epoch that was given count: where its root stands, and how many pages wait in the log.
func (k *Keeper) Commit(epoch, root, pending int) api.Code {
	a := k.last
	if !k.counts() || epoch <= a.Epoch || epoch > a.Given {
		return api.ErrState
	}
	a.Epoch, a.Root, a.RootEpoch, a.Pending = epoch, root, epoch, pending
	return k.Save(a)
}

// Clean has no page wait in the log.
func (k *Keeper) Clean() api.Code {
	if !k.counts() {
		return api.ErrNone
	}
	a := k.last
	a.Pending = 0
	return k.Save(a)
}
