package anchor_test

import (
	"bytes"
	"math"
	"reflect"
	"slices"
	"testing"

	"deedbox/anchor"
	"deedbox/api"
)

// scribble writes over all memory of an anchor, and over what lies behind its lists' lengths.
func scribble(a api.Anchor) {
	turn(a.Master)
	l := a.Keks[:cap(a.Keks)]
	for i := range l {
		turn(l[i].Key)
		l[i] = api.Kek{Bucket: l[i].Bucket + 1, Gen: -5, Key: row(9, 4)}
	}
}

func turn(b []byte) {
	b = b[:cap(b)]
	for i := range b {
		b[i] += 13
	}
}

// roomy is an anchor whose lists have other things behind their lengths.
func roomy(a api.Anchor) api.Anchor {
	more := func(b []byte) []byte { return append(bytes.Clone(b), row(8, 40)...)[:len(b)] }
	a = anchor.Copy(a)
	a.Master = more(a.Master)
	for i := range a.Keks {
		a.Keks[i].Key = more(a.Keks[i].Key)
	}
	a.Keks = append(slices.Clone(a.Keks), keks(20)...)[:len(a.Keks)]
	return a
}

// odds is anchors that are not right, of which Copy and Same hold as well.
func odds() []api.Anchor {
	l := []api.Anchor{
		{},
		{Seq: math.MaxInt, Epoch: math.MinInt, Given: -1, Root: math.MaxInt, RootEpoch: math.MinInt, Pending: -2, Master: row(1, 1), Keks: []api.Kek{{}}},
		{Root: math.MinInt, Master: row(1, 2000), Keks: keks(40)},
		{Keks: []api.Kek{{Bucket: -1, Gen: math.MaxInt}, {Bucket: math.MinInt, Key: row(3, 5)}}},
	}
	for _, w := range wrongs() {
		l = append(l, w.a)
	}
	return l
}

// TestCopy: 14.4, a copy is the same, whatever is in it.
func TestCopy(t *testing.T) {
	for _, a := range append(rights(), odds()...) {
		c := anchor.Copy(a)
		if !anchor.Same(a, c) || !reflect.DeepEqual(a, c) {
			t.Errorf("%+v: %+v", a, c)
		}
	}
}

// TestCopyIsNew: 14.4, what is written to a copy is not seen in the anchor, nor the other way round.
func TestCopyIsNew(t *testing.T) {
	for count := range 17 {
		a, was := roomy(right(count)), right(count)
		c := anchor.Copy(a)
		scribble(c)
		if !anchor.Same(a, was) || !bytes.Equal(a.Master[:72], append(bytes.Clone(was.Master), row(8, 40)...)) {
			t.Errorf("%d keys: the anchor was changed", count)
		}
		c = anchor.Copy(a)
		scribble(a)
		if !anchor.Same(c, was) {
			t.Errorf("%d keys: the copy was changed", count)
		}
	}
}

// TestSame: 14.4, anchors are the same as themselves, in other memory, and with other things behind their lists.
func TestSame(t *testing.T) {
	for i, a := range append(rights(), odds()...) {
		if !anchor.Same(a, a) || !anchor.Same(a, roomy(a)) || !anchor.Same(roomy(a), a) {
			t.Errorf("anchor %d: %+v", i, a)
		}
	}
}

// unlike is the right anchor of two keys, with one part changed each.
func unlike() []api.Anchor {
	var l []api.Anchor
	for _, f := range fields() {
		for _, n := range []int{8, -1, math.MaxInt, math.MinInt} {
			if f.name != "Epoch and Given" {
				l = append(l, f.with(n))
			}
		}
	}
	key := func(b []byte) []func(a *api.Anchor) {
		return []func(a *api.Anchor){
			func(a *api.Anchor) { a.Master = b },
			func(a *api.Anchor) { a.Keks[0].Key = b },
			func(a *api.Anchor) { a.Keks[1].Key = b },
		}
	}
	for _, b := range [][]byte{nil, row(1, 31), row(1, 33), row(100, 31), row(101, 33), make([]byte, 32)} {
		for _, do := range key(b) {
			l = append(l, changed(do))
		}
	}
	l = append(l, changed(func(a *api.Anchor) { a.Keks = nil }))
	l = append(l, changed(func(a *api.Anchor) { a.Keks = a.Keks[:1] }))
	l = append(l, changed(func(a *api.Anchor) { a.Keks = a.Keks[1:] }))
	l = append(l, changed(func(a *api.Anchor) { a.Keks = append(a.Keks, api.Kek{}) }))
	l = append(l, changed(func(a *api.Anchor) { a.Keks = append(a.Keks, a.Keks[1]) }))
	l = append(l, changed(func(a *api.Anchor) { a.Keks[0], a.Keks[1] = a.Keks[1], a.Keks[0] }))
	l = append(l, changed(func(a *api.Anchor) { a.Keks[1] = a.Keks[0] }))
	return l
}

// TestUnlikeParts: 14.4, one part that is not the same is enough.
func TestUnlikeParts(t *testing.T) {
	was := right(2)
	for i, a := range unlike() {
		if anchor.Same(a, was) || anchor.Same(was, a) {
			t.Errorf("anchor %d is the same: %+v", i, a)
		}
	}
}

// TestUnlikeBits: 14.4, each bit of each key counts.
func TestUnlikeBits(t *testing.T) {
	for at := range 96 {
		for bit := range 8 {
			a, was := right(2), right(2)
			[][]byte{a.Master, a.Keks[0].Key, a.Keks[1].Key}[at/32][at%32] ^= 1 << bit
			if anchor.Same(a, was) || anchor.Same(was, a) {
				t.Errorf("bit %d of byte %d", bit, at)
			}
		}
	}
}

// TestSwappedNumbers: 14.4, numbers count at their places: no two of an anchor may be taken for one another.
func TestSwappedNumbers(t *testing.T) {
	for i := range 6 {
		for j := range i {
			a, c := api.Anchor{}, api.Anchor{}
			*numberAt(&a, i)++
			*numberAt(&c, j)++
			if anchor.Same(a, c) {
				t.Errorf("numbers %d and %d", i, j)
			}
		}
	}
}

func numberAt(a *api.Anchor, i int) *int {
	return []*int{&a.Seq, &a.Epoch, &a.Given, &a.Root, &a.RootEpoch, &a.Pending}[i]
}

// TestNilAndNone: R3, lists that are nil and those without elements are the same, in each call.
func TestNilAndNone(t *testing.T) {
	a, c := right(0), right(0)
	a.Keks, c.Keks = nil, []api.Kek{}
	if !anchor.Same(a, c) || !anchor.Same(c, a) || !anchor.Same(anchor.Copy(a), anchor.Copy(c)) || !bytes.Equal(put(t, a), put(t, c)) {
		t.Error("keys of buckets")
	}
	a.Master, c.Master = nil, []byte{}
	if !anchor.Same(a, c) || anchor.Check(a) != api.ErrSize || anchor.Check(c) != api.ErrSize {
		t.Error("the master key")
	}
	a.Keks, c.Keks = []api.Kek{{Key: nil}}, []api.Kek{{Key: []byte{}}}
	if !anchor.Same(a, c) {
		t.Error("a key")
	}
}

// TestHandedInIsLeft: R3, what is handed in is not changed, and what lies behind it is not handed out.
func TestHandedInIsLeft(t *testing.T) {
	a, was := roomy(right(3)), right(3)
	b := put(t, a)
	anchor.Check(a)
	anchor.Same(a, roomy(a))
	if !reflect.DeepEqual(a, was) || !bytes.Equal(b, written(was)) {
		t.Error("Put")
	}
	turn(b)
	if !reflect.DeepEqual(a, was) {
		t.Error("what is put shares memory with the anchor")
	}
	long := append(written(was), row(4, 50)...)
	c := bytes.Clone(long)
	got, _ := anchor.Get(c[:len(c)-50])
	again, _ := anchor.Get(c[:len(c)-50])
	if !bytes.Equal(c, long) {
		t.Error("Get changed its bytes")
	}
	scribble(got)
	if !bytes.Equal(c, long) || !reflect.DeepEqual(again, was) {
		t.Error("what is got shares memory with its bytes, or with another one")
	}
	turn(c)
	if !reflect.DeepEqual(again, was) {
		t.Error("what is got is changed with its bytes")
	}
}

// TestListsOfOneAnswer: R3, no list of an anchor that is got shares memory with another one.
func TestListsOfOneAnswer(t *testing.T) {
	for which := range 4 {
		a, _ := anchor.Get(written(right(3)))
		c := anchor.Copy(a)
		for _, x := range []api.Anchor{a, c} {
			was := right(3)
			lists := [][]byte{x.Master, x.Keks[0].Key, x.Keks[1].Key, x.Keks[2].Key}
			wants := [][]byte{was.Master, was.Keks[0].Key, was.Keks[1].Key, was.Keks[2].Key}
			turn(lists[which])
			for i := range lists {
				if bytes.Equal(lists[i], wants[i]) == (i == which) {
					t.Errorf("list %d, as list %d is written over", i, which)
				}
			}
		}
	}
}
