package anchor_test

import (
	"math"
	"testing"

	"deedbox/anchor"
	"deedbox/api"
)

// row is so many bytes, of its own for each seed; none of them is nought.
func row(seed, length int) []byte {
	b := make([]byte, length)
	x := uint32(seed)*2654435761 + 12345
	for i := range b {
		x = x*1664525 + 1013904223
		b[i] = byte(x>>24) | 1
	}
	return b
}

// keks is so many keys of buckets, each of its own.
func keks(count int) []api.Kek {
	var l []api.Kek
	for i := range count {
		l = append(l, api.Kek{Bucket: 256*i + 1, Gen: 65535 - i, Key: row(100+i, 32)})
	}
	return l
}

// right is an anchor with nothing wrong, no two numbers of it alike, with so many keys of buckets.
func right(count int) api.Anchor {
	return api.Anchor{Seq: 7, Epoch: 300, Given: 70000, Root: 12, RootEpoch: 299, Pending: 3, Master: row(1, 32), Keks: keks(count)}
}

// field is one of an anchor's numbers: from which one up to which one it goes, and how it is put.
type field struct {
	name        string
	least, most int
	put         func(a *api.Anchor, n int)
}

// fields is all numbers of an anchor that has two keys of buckets.
func fields() []field {
	const num = 1 << 40
	return []field{
		{"Seq", 1, num, func(a *api.Anchor, n int) { a.Seq = n }},
		{"Epoch", 0, 70000, func(a *api.Anchor, n int) { a.Epoch = n }},
		{"Given", 300, num, func(a *api.Anchor, n int) { a.Given = n }},
		{"Epoch and Given", 0, num, func(a *api.Anchor, n int) { a.Epoch, a.Given = n, n }},
		{"Root", -1, 4095, func(a *api.Anchor, n int) { a.Root = n }},
		{"RootEpoch", 0, num, func(a *api.Anchor, n int) { a.RootEpoch = n }},
		{"Pending", 0, 4095, func(a *api.Anchor, n int) { a.Pending = n }},
		{"first Bucket", 0, 65535, func(a *api.Anchor, n int) { a.Keks[0].Bucket = n }},
		{"first Gen", 0, 65535, func(a *api.Anchor, n int) { a.Keks[0].Gen = n }},
		{"last Bucket", 0, 65535, func(a *api.Anchor, n int) { a.Keks[1].Bucket = n }},
		{"last Gen", 0, 65535, func(a *api.Anchor, n int) { a.Keks[1].Gen = n }},
	}
}

// with is the right anchor of two keys, with one number put.
func (f field) with(n int) api.Anchor {
	a := right(2)
	f.put(&a, n)
	return a
}

// above is numbers that are too great for a field, below those that are too small.
func (f field) above() []int {
	return []int{f.most + 1, f.most + 2, 2*f.most + 70001, 1<<40 + 1, 1 << 41, 1<<62 - 1, 1 << 62, math.MaxInt - 1, math.MaxInt}
}

func (f field) below() []int {
	return []int{f.least - 1, f.least - 2, -70000, -1 << 40, math.MinInt + 1, math.MinInt}
}

// wrong is an anchor with something wrong, and the code of what is named first.
type wrong struct {
	name string
	a    api.Anchor
	code api.Code
}

// changed is the right anchor of two keys, changed.
func changed(do func(a *api.Anchor)) api.Anchor {
	a := right(2)
	do(&a)
	return a
}

// wrongs is anchors with one thing wrong each.
func wrongs() []wrong {
	var l []wrong
	for _, f := range fields() {
		for _, n := range append(f.above(), f.below()...) {
			l = append(l, wrong{f.name, f.with(n), api.ErrRange})
		}
	}
	for length := range 70 {
		if length != 32 {
			l = append(l, wrong{"Master", changed(func(a *api.Anchor) { a.Master = row(1, length) }), api.ErrSize})
			l = append(l, wrong{"first Key", changed(func(a *api.Anchor) { a.Keks[0].Key = row(1, length) }), api.ErrSize})
			l = append(l, wrong{"last Key", changed(func(a *api.Anchor) { a.Keks[1].Key = row(1, length) }), api.ErrSize})
		}
	}
	l = append(l, wrong{"no Master", changed(func(a *api.Anchor) { a.Master = nil }), api.ErrSize})
	l = append(l, wrong{"no Key", changed(func(a *api.Anchor) { a.Keks[1].Key = nil }), api.ErrSize})
	for _, count := range []int{17, 18, 32, 255, 256, 257, 272} {
		l = append(l, wrong{"Keks", right(count), api.ErrSize})
	}
	return l
}

// mixed is anchors with several things wrong.
func mixed() []wrong {
	longKey := func(a *api.Anchor, i int) { a.Keks[i].Key = row(1, 33) }
	l := []wrong{
		{"the zero anchor", api.Anchor{}, api.ErrRange},
		{"Master ahead of a key's number", changed(func(a *api.Anchor) { a.Master, a.Keks[0].Bucket = row(1, 31), -1 }), api.ErrSize},
		{"a key's number ahead of its bytes", changed(func(a *api.Anchor) { a.Keks[0].Gen = 65536; longKey(a, 0) }), api.ErrRange},
		{"the last key's number ahead of its bytes", changed(func(a *api.Anchor) { a.Keks[1].Bucket = 65536; longKey(a, 1) }), api.ErrRange},
		{"the first key's bytes ahead of the last one's number", changed(func(a *api.Anchor) { a.Keks[1].Gen = -1; longKey(a, 0) }), api.ErrSize},
		{"the first key's number ahead of the last one's bytes", changed(func(a *api.Anchor) { a.Keks[0].Gen = -1; longKey(a, 1) }), api.ErrRange},
	}
	many := right(17)
	many.Keks[0].Bucket = -1
	l = append(l, wrong{"how many keys ahead of a key's number", many, api.ErrSize})
	for i, f := range fields()[:7] {
		a := f.with(f.most + 1)
		if i%2 == 0 {
			a.Master = nil
		} else {
			a.Keks = keks(17)
		}
		l = append(l, wrong{f.name + " ahead of sizes", a, api.ErrRange})
		b := f.with(f.least - 1)
		longKey(&b, 0)
		l = append(l, wrong{f.name + " ahead of a key's bytes", b, api.ErrRange})
	}
	return l
}

// TestLimits: 14.1, the limits that it names are api's.
func TestLimits(t *testing.T) {
	if api.MaxNum != 1<<40 || api.MaxBlocks != 4096 || api.KeySize != 32 || api.MaxKeks != 16 {
		t.Errorf("%d, %d, %d, %d", api.MaxNum, api.MaxBlocks, api.KeySize, api.MaxKeks)
	}
}

// TestCheckRight: 14.1, each number at its ends and within, and each count of keys that there may be.
func TestCheckRight(t *testing.T) {
	for count := range 17 {
		if code := anchor.Check(right(count)); code != api.OK {
			t.Errorf("%d keys: code %d", count, code)
		}
	}
	for _, f := range fields() {
		for _, n := range []int{f.least, f.least + 1, (f.least + f.most) / 2, f.most - 1, f.most} {
			if code := anchor.Check(f.with(n)); code != api.OK {
				t.Errorf("%s %d: code %d", f.name, n, code)
			}
		}
	}
}

// TestCheckLeastAndMost: 14.1, all parts at their least, and all at their most; the root may be of any epoch, and keys of buckets may be alike.
func TestCheckLeastAndMost(t *testing.T) {
	least := api.Anchor{Seq: 1, Root: -1, Master: make([]byte, 32)}
	most := api.Anchor{Seq: 1 << 40, Epoch: 1 << 40, Given: 1 << 40, Root: 4095, RootEpoch: 1 << 40, Pending: 4095, Master: row(1, 32)}
	for range 16 {
		most.Keks = append(most.Keks, api.Kek{Bucket: 65535, Gen: 65535, Key: row(2, 32)})
	}
	ahead := least
	ahead.RootEpoch = 1 << 40
	for i, a := range []api.Anchor{least, most, ahead} {
		if code := anchor.Check(a); code != api.OK {
			t.Errorf("anchor %d: code %d", i, code)
		}
	}
}

// TestCheckWrong: 14.1, each thing that may be wrong, alone.
func TestCheckWrong(t *testing.T) {
	for _, w := range wrongs() {
		if code := anchor.Check(w.a); code != w.code {
			t.Errorf("%s, %+v: code %d; want %d", w.name, w.a, code, w.code)
		}
	}
}

// TestCheckEachKey: 14.1, a wrong key is told at each place of sixteen.
func TestCheckEachKey(t *testing.T) {
	for i := range 16 {
		for n, k := range []api.Kek{{Bucket: -1, Key: row(1, 32)}, {Gen: 65536, Key: row(1, 32)}, {Key: row(1, 31)}} {
			a := right(16)
			a.Keks[i] = k
			want := api.ErrRange
			if n == 2 {
				want = api.ErrSize
			}
			if code := anchor.Check(a); code != want {
				t.Errorf("key %d, %+v: code %d; want %d", i, k, code, want)
			}
		}
	}
}

// TestCheckOrder: 14.1 and R6, of several things that are wrong the one that is named first is told.
func TestCheckOrder(t *testing.T) {
	for _, w := range mixed() {
		if code := anchor.Check(w.a); code != w.code {
			t.Errorf("%s: code %d; want %d", w.name, code, w.code)
		}
	}
}
