package disk

import (
	"slices"

	"deedbox/api"
	"deedbox/octet"
)

// Poke does what somebody else does.
func (d *Disk) Poke(x api.Poke) {
	if !d.has(x.At) {
		return
	}
	b, ok := d.poked(x)
	if !ok {
		return
	}
	d.waits = slices.DeleteFunc(d.waits, func(w api.Touch) bool { return w.At == x.At })
	d.change(x.At, b)
}

// Plot has somebody else do this, and nothing else, from now on.
func (d *Disk) Plot(l []api.Poke) {
	d.plot = map[int][]api.Poke{}
	for _, x := range l {
		// Neither a step that is over nor bytes behind a block's end are ever asked for.
		if x.When >= d.steps {
			x.Bytes = octet.Join(cut(x.Bytes))
			d.plot[x.When] = append(d.plot[x.When], x)
		}
	}
}

// pokeAhead does what somebody else does ahead of the next step.
func (d *Disk) pokeAhead() {
	for _, x := range d.plot[d.steps] {
		d.Poke(x)
	}
}

// poked is what a block becomes by what somebody else does; false: nothing is done.
func (d *Disk) poked(x api.Poke) ([]byte, bool) {
	switch x.Kind {
	case api.PokeBytes:
		return fill(x.Bytes), true
	case api.PokeCopy:
		return d.Look(x.N), d.has(x.N)
	case api.PokeBack:
		if x.N >= 0 {
			return d.safe(x.At, x.N), true
		}
	}
	return nil, false
}

// cut is bytes, as far as a block goes.
func cut(b []byte) []byte { return b[:min(len(b), api.Block)] }

// fill is a block of bytes, cut, or with noughts behind.
func fill(b []byte) []byte {
	return octet.Join(cut(b), octet.Put(0, api.Block-len(b)))
}
