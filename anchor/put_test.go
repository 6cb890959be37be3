package anchor_test

import (
	"bytes"
	"encoding/binary"
	"reflect"
	"slices"
	"testing"

	"deedbox/anchor"
	"deedbox/api"
)

// written is the chapter's words of an anchor as bytes, whatever is wrong with it.
func written(a api.Anchor) []byte {
	b := []byte("deedbox1")
	for _, n := range []int{a.Seq, a.Epoch, a.Given, a.Root + 1, a.RootEpoch, a.Pending} {
		b = binary.BigEndian.AppendUint64(b, uint64(n))
	}
	b = append(b, a.Master...)
	b = append(b, byte(len(a.Keks)))
	for _, k := range a.Keks {
		b = binary.BigEndian.AppendUint16(b, uint16(k.Bucket))
		b = binary.BigEndian.AppendUint16(b, uint16(k.Gen))
		b = append(b, k.Key...)
	}
	return b
}

// rights is anchors with nothing wrong: of each count of keys, and with each number at its ends.
func rights() []api.Anchor {
	l := []api.Anchor{{Seq: 1, Root: -1, Master: make([]byte, 32)}}
	for count := range 17 {
		l = append(l, right(count))
	}
	for _, f := range fields() {
		for _, n := range []int{f.least, f.least + 1, (f.least + f.most) / 2, f.most - 1, f.most} {
			l = append(l, f.with(n))
		}
	}
	return l
}

// put is an anchor as bytes; there must be some.
func put(t *testing.T, a api.Anchor) []byte {
	t.Helper()
	b, code := anchor.Put(a)
	if code != api.OK {
		t.Fatalf("%+v is not put: code %d", a, code)
	}
	return b
}

// refuses checks that no anchor is got of bytes, but a code.
func refuses(t *testing.T, name string, b []byte, want api.Code) {
	t.Helper()
	if a, code := anchor.Get(b); code != want || !reflect.DeepEqual(a, api.Anchor{}) {
		t.Errorf("%s: code %d, %+v; want code %d alone", name, code, a, want)
	}
}

// TestPutByHand: 14.2, byte by byte.
func TestPutByHand(t *testing.T) {
	master, first, last := row(1, 32), row(2, 32), row(3, 32)
	a := api.Anchor{Seq: 1, Epoch: 258, Given: 1 << 40, Root: 4095, RootEpoch: 0x0123456789, Pending: 772, Master: master,
		Keks: []api.Kek{{Bucket: 1, Gen: 515, Key: first}, {Bucket: 65535, Gen: 0, Key: last}}}
	want := slices.Concat(
		[]byte{0x64, 0x65, 0x65, 0x64, 0x62, 0x6f, 0x78, 0x31},
		[]byte{0, 0, 0, 0, 0, 0, 0, 1},
		[]byte{0, 0, 0, 0, 0, 0, 1, 2},
		[]byte{0, 0, 1, 0, 0, 0, 0, 0},
		[]byte{0, 0, 0, 0, 0, 0, 0x10, 0},
		[]byte{0, 0, 0, 1, 0x23, 0x45, 0x67, 0x89},
		[]byte{0, 0, 0, 0, 0, 0, 3, 4},
		master,
		[]byte{2},
		[]byte{0, 1, 2, 3}, first,
		[]byte{0xff, 0xff, 0, 0}, last,
	)
	if b := put(t, a); !bytes.Equal(b, want) {
		t.Errorf("%x; want %x", b, want)
	}
	none := api.Anchor{Seq: 1, Root: -1, Master: make([]byte, 32)}
	want = slices.Concat([]byte("deedbox1"), []byte{0, 0, 0, 0, 0, 0, 0, 1}, make([]byte, 73))
	if b := put(t, none); !bytes.Equal(b, want) {
		t.Errorf("%x; want %x", b, want)
	}
}

// TestPut: 14.2, against the chapter's words; the longest one has 665 bytes.
func TestPut(t *testing.T) {
	for _, a := range rights() {
		if b := put(t, a); !bytes.Equal(b, written(a)) || len(b) != 89+36*len(a.Keks) {
			t.Errorf("%+v: %x", a, b)
		}
	}
	if b := put(t, right(16)); len(b) != 665 {
		t.Errorf("%d bytes", len(b))
	}
}

// TestPutWrong: 14.2, of an anchor with something wrong there is Check's code alone.
func TestPutWrong(t *testing.T) {
	for _, w := range append(wrongs(), mixed()...) {
		if b, code := anchor.Put(w.a); code != w.code || len(b) != 0 {
			t.Errorf("%s: code %d, %d bytes; want code %d", w.name, code, len(b), w.code)
		}
	}
}

// TestThereAndBack: 14.2 and 14.3, what is put is got as what it was, whatever stands behind.
func TestThereAndBack(t *testing.T) {
	for _, a := range rights() {
		b := put(t, a)
		for _, behind := range [][]byte{nil, {0}, {255}, make([]byte, 359), b, row(5, 2000)} {
			got, code := anchor.Get(slices.Concat(b, behind))
			if code != api.OK || !anchor.Same(got, a) || !reflect.DeepEqual(got, a) {
				t.Errorf("%d bytes behind: code %d, %+v; want %+v", len(behind), code, got, a)
			}
		}
	}
}

// TestGetShort: 14.3, cut within the mark it is none; cut anywhere behind it, it is too short.
func TestGetShort(t *testing.T) {
	for _, count := range []int{0, 1, 2, 16} {
		b := put(t, right(count))
		for n := range len(b) {
			want := api.ErrShort
			if n < 8 {
				want = api.ErrNone
			}
			refuses(t, "cut", b[:n], want)
			refuses(t, "cut, in new memory", bytes.Clone(b[:n]), want)
		}
	}
}

// TestGetNone: 14.3, what begins with anything else is none, and that is told ahead of all else.
func TestGetNone(t *testing.T) {
	b := put(t, right(2))
	for at := range 8 {
		for bit := range 8 {
			c := bytes.Clone(b)
			c[at] ^= 1 << bit
			refuses(t, "a bit of the mark", c, api.ErrNone)
			refuses(t, "a bit of the mark, cut", c[:20], api.ErrNone)
		}
	}
	for _, c := range [][]byte{nil, {}, make([]byte, 1024), row(3, 1024), b[1:], append([]byte{0}, b...), []byte("Deedbox1"), []byte("deedbox2"), []byte("deedbox")} {
		refuses(t, "no mark", c, api.ErrNone)
	}
	refuses(t, "the mark alone", []byte("deedbox1"), api.ErrShort)
}

// TestGetGreatNumbers: 14.3, numbers that no int holds, and those about 2^62, are out of range, at each of the six places; what is short is told ahead of that.
func TestGetGreatNumbers(t *testing.T) {
	great := []uint64{1<<40 + 1, 1 << 41, 1<<62 - 1, 1 << 62, 1<<62 + 1, 1<<62 + 2, 1<<63 - 1, 1 << 63, 1<<63 + 1, 1<<63 + 7, 1<<64 - 2, 1<<64 - 1}
	for place := range 6 {
		for _, n := range great {
			b := put(t, right(1))
			binary.BigEndian.PutUint64(b[8+8*place:], n)
			refuses(t, "a great number", b, api.ErrRange)
			refuses(t, "a great number, cut", b[:len(b)-1], api.ErrShort)
			refuses(t, "a great number, cut behind it", b[:16+8*place], api.ErrShort)
		}
	}
}

// TestGetAllGreat: 14.3, numbers above 2^62 are alike: an epoch is not above what is given then, and both are out of range.
func TestGetAllGreat(t *testing.T) {
	b := put(t, right(1))
	for place := range 6 {
		binary.BigEndian.PutUint64(b[8+8*place:], 1<<64-1)
	}
	refuses(t, "all great", b, api.ErrRange)
}

// TestGetWrong: 14.3, what stands there whole, but is wrong, has Check's code.
func TestGetWrong(t *testing.T) {
	for _, f := range fields()[:7] {
		for _, n := range []int{f.most + 1, f.most + 2, 1<<40 + 1} {
			refuses(t, f.name, written(f.with(n)), api.ErrRange)
		}
	}
	refuses(t, "Seq 0", written(changed(func(a *api.Anchor) { a.Seq = 0 })), api.ErrRange)
	refuses(t, "Epoch above Given", written(changed(func(a *api.Anchor) { a.Epoch, a.Given = 6, 5 })), api.ErrRange)
}

// TestGetRoot: 14.3, the root's block stands one higher: nought is that there is none.
func TestGetRoot(t *testing.T) {
	for _, n := range []int{0, 1, 2, 255, 256, 4095, 4096, 4097} {
		b := put(t, right(1))
		binary.BigEndian.PutUint64(b[32:], uint64(n))
		if n == 4097 {
			refuses(t, "Root", b, api.ErrRange)
			continue
		}
		if a, code := anchor.Get(b); code != api.OK || a.Root != n-1 {
			t.Errorf("%d: code %d, %d", n, code, a.Root)
		}
	}
}

// TestGetTooManyKeys: 14.3, more keys than there may be: too short, if they are not all there, else Check's codes in their order.
func TestGetTooManyKeys(t *testing.T) {
	for _, count := range []int{17, 18, 25, 26, 128, 254, 255} {
		a := right(count)
		b := written(a)
		refuses(t, "too many", b, api.ErrSize)
		refuses(t, "too many, bytes behind", append(bytes.Clone(b), 1), api.ErrSize)
		refuses(t, "too many, cut", b[:len(b)-1], api.ErrShort)
		refuses(t, "too many, none there", b[:89], api.ErrShort)
		a.Pending = 4096
		refuses(t, "too many, and a number", written(a), api.ErrRange)
	}
}

// TestGetCount: 14.3, how many keys there are is what is told, not what stands there: fewer leave the rest behind.
func TestGetCount(t *testing.T) {
	b := put(t, right(16))
	for count := range 17 {
		b[88] = byte(count)
		if a, code := anchor.Get(b); code != api.OK || !reflect.DeepEqual(a, right(count)) {
			t.Errorf("%d keys: code %d, %+v", count, code, a)
		}
	}
	b[88] = 17
	refuses(t, "one more than stands there", b, api.ErrShort)
}

// TestOneWayAlone: 14.3 and P8, with any one bit turned there is a code, or an anchor that is put as just these bytes.
func TestOneWayAlone(t *testing.T) {
	was := right(3)
	b := put(t, was)
	for at := range b {
		for bit := range 8 {
			c := bytes.Clone(b)
			c[at] ^= 1 << bit
			a, code := anchor.Get(c)
			if code != api.OK {
				refuses(t, "a bit", c, code)
				continue
			}
			n := 89 + 36*len(a.Keks)
			if !bytes.Equal(put(t, a), c[:n]) || anchor.Same(a, was) {
				t.Errorf("bit %d of byte %d: %+v", bit, at, a)
			}
		}
	}
}

// TestUnlikeAnchors: P8, no two unlike anchors are the same bytes, nor does one begin with another one's.
func TestUnlikeAnchors(t *testing.T) {
	l := rights()
	for i, a := range l {
		for _, c := range l[:i] {
			if !anchor.Same(a, c) && (bytes.HasPrefix(put(t, a), put(t, c)) || bytes.HasPrefix(put(t, c), put(t, a))) {
				t.Errorf("%+v and %+v", a, c)
			}
		}
	}
}
