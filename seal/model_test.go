package seal_test

import (
	"bytes"
	"testing"

	"deedbox/aes"
	"deedbox/api"
	"deedbox/gcm"
	"deedbox/mac"
	"deedbox/octet"
	"deedbox/seal"
	"deedbox/tape"
)

// line is what stands in the model's book.
type line struct{ key, nonce, beside, text, sealed string }

// made is a key that the model made ideally.
type made struct{ from, packed, key string }

// model is the chapter's words: a book through which one goes from its first line on.
type model struct {
	ideal          bool
	book           []line
	keys           []made
	number         uint64
	reused, forged bool
}

func (m *model) noise(size int) []byte {
	m.number++
	return tape.Noise(m.number, size)
}

func (m *model) seal(key, nonce, beside, text []byte) ([]byte, api.Code) {
	if len(key) != 32 || len(nonce) != 12 {
		return nil, api.ErrSize
	}
	var sealed []byte
	if m.ideal {
		sealed = m.noise(len(text) + 16)
	} else {
		g, _ := gcm.New(aes.Build(), key)
		sealed, _ = g.Seal(nonce, beside, text)
	}
	for _, l := range m.book {
		if l.key == string(key) && l.nonce == string(nonce) && (l.beside != string(beside) || l.text != string(text)) {
			m.reused = true
		}
	}
	m.book = append(m.book, line{string(key), string(nonce), string(beside), string(text), string(sealed)})
	return sealed, api.OK
}

// find is the first line of the book that is so.
func (m *model) find(key, nonce, beside, sealed []byte) (line, bool) {
	for _, l := range m.book {
		if l.key == string(key) && l.nonce == string(nonce) && l.beside == string(beside) && l.sealed == string(sealed) {
			return l, true
		}
	}
	return line{}, false
}

func (m *model) open(key, nonce, beside, sealed []byte) ([]byte, api.Code) {
	if len(key) != 32 || len(nonce) != 12 {
		return nil, api.ErrSize
	}
	l, there := m.find(key, nonce, beside, sealed)
	if m.ideal && there {
		return []byte(l.text), api.OK
	}
	if m.ideal {
		return nil, api.ErrIntegrity
	}
	g, _ := gcm.New(aes.Build(), key)
	text, code := g.Open(nonce, beside, sealed)
	if code != api.OK {
		return nil, api.ErrIntegrity
	}
	m.forged = m.forged || !there
	return text, api.OK
}

func (m *model) derive(from []byte, what [][]byte) []byte {
	packed := octet.Pack(what...)
	if !m.ideal {
		return mac.Derive(from, nil, 32, packed)
	}
	for _, k := range m.keys {
		if k.from == string(from) && k.packed == string(packed) {
			return []byte(k.key)
		}
	}
	key := m.noise(32)
	m.keys = append(m.keys, made{string(from), string(packed), string(key)})
	return key
}

// pair is a sealer and the model of it; what was sealed by either is what acts open.
type pair struct {
	s    *seal.Sealer
	m    *model
	seen [][]byte
}

func newPair(ideal bool) *pair {
	return &pair{s: seal.New(ideal), m: &model{ideal: ideal}, seen: [][]byte{nil, row(20, 9)}}
}

// same tells whether the sealer tells of its book what the model does.
func (x *pair) same() bool {
	return x.s.Ideal() == x.m.ideal && x.s.Sealed() == len(x.m.book) && x.s.Reused() == x.m.reused && x.s.Forged() == x.m.forged
}

// act is something that is done to both; false: what is answered is not the same.
type act func(x *pair) bool

func sealAct(v thing) act {
	return func(x *pair) bool {
		got, code := x.s.Seal(v.key, v.nonce, v.beside, v.text)
		want, as := x.m.seal(v.key, v.nonce, v.beside, v.text)
		x.seen = append(x.seen, want)
		return code == as && bytes.Equal(got, want)
	}
}

// openAct opens what was sealed as the last one, or so many ahead of it; a bit of it is turned, if it is said which.
func openAct(v thing, back, bit int) act {
	return func(x *pair) bool {
		b := x.seen[max(len(x.seen)-1-back, 0)]
		if bit >= 0 && bit < 8*len(b) {
			b = turned(b, bit)
		}
		got, code := x.s.Open(v.key, v.nonce, v.beside, b)
		want, as := x.m.open(v.key, v.nonce, v.beside, b)
		return code == as && bytes.Equal(got, want)
	}
}

// strangerAct opens what was sealed for real elsewhere.
func strangerAct(v thing) act {
	return func(x *pair) bool {
		b, _ := seal.New(false).Seal(v.key, v.nonce, v.beside, v.text)
		got, code := x.s.Open(v.key, v.nonce, v.beside, b)
		want, as := x.m.open(v.key, v.nonce, v.beside, b)
		return code == as && bytes.Equal(got, want)
	}
}

func deriveAct(from []byte, what ...[]byte) act {
	return func(x *pair) bool {
		return bytes.Equal(x.s.Derive(from, what...), x.m.derive(from, what))
	}
}

func acts() []act {
	k, n := keyOf(1), seal.Nonce(1, 2)
	a, b := []byte("a"), []byte("b")
	plain, moved := thing{k, n, a, b}, thing{k, n, nil, []byte("ab")}
	return []act{
		sealAct(plain), sealAct(moved), sealAct(thing{keyOf(2), n, a, b}), sealAct(thing{k, n[1:], a, b}),
		openAct(plain, 0, -1), openAct(plain, 1, -1), openAct(plain, 0, 5), openAct(moved, 0, -1), openAct(thing{k[1:], n, a, b}, 0, -1),
		strangerAct(plain), deriveAct(k, a), deriveAct(k, a, nil),
	}
}

// TestShortRows: 12.1 to 12.4, each row of four acts, of either kind, against the model.
func TestShortRows(t *testing.T) {
	l := acts()
	for n := range len(l) * len(l) * len(l) * len(l) {
		for _, ideal := range []bool{true, false} {
			x, left := newPair(ideal), n
			for i := range 4 {
				if !l[left%len(l)](x) || !x.same() {
					t.Fatalf("ideal %t, row %d, act %d: not as the model has it", ideal, n, i)
				}
				left /= len(l)
			}
		}
	}
}

// chance is numbers that look like chance, the same each time.
type chance uint32

func (c *chance) below(n int) int {
	*c = *c*1664525 + 1013904223
	return int(*c>>8) % n
}

// anyAct is an act with few keys, nonces and texts, so that the same ones come together often.
func anyAct(c *chance) act {
	v := thing{keyOf(uint32(c.below(3))), seal.Nonce(uint64(c.below(2)), uint32(c.below(12))), row(c.below(3), 1), row(c.below(3), 2)}
	switch c.below(12) {
	case 0:
		v.key = row(30+c.below(5), 1)
	case 1:
		v.nonce = row(10+c.below(5), 1)
	}
	switch c.below(8) {
	case 0, 1, 2:
		return sealAct(v)
	case 3, 4:
		return openAct(v, c.below(6), c.below(400)-200)
	case 5, 6:
		return deriveAct(row(c.below(3), 4), row(c.below(3), 5), row(c.below(3), 6))
	}
	return strangerAct(v)
}

// TestLongRows: 12.1 to 12.4, long rows of acts, of either kind, against the model; and P8, the same row again is the same.
func TestLongRows(t *testing.T) {
	for seed := range chance(20) {
		for _, ideal := range []bool{true, false} {
			x, again, c := newPair(ideal), newPair(ideal), seed
			for i := range 400 {
				do := anyAct(&c)
				if !do(x) || !x.same() {
					t.Fatalf("ideal %t, seed %d, act %d: not as the model has it", ideal, seed, i)
				}
				if !do(again) || !again.same() {
					t.Fatalf("ideal %t, seed %d, act %d: not the same again", ideal, seed, i)
				}
			}
			for i := range x.m.book {
				l := x.m.book[i]
				opens(t, x.s, []byte(l.key), []byte(l.nonce), []byte(l.beside), []byte(l.sealed), []byte(l.text))
			}
		}
	}
}

// TestNothingButLengths: 12.6, two ideal sealers that are handed other bytes of the same lengths, keys that are the same where they were, seal and derive alike, and open with the same codes.
func TestNothingButLengths(t *testing.T) {
	one, other, c := seal.New(true), seal.New(true), chance(1)
	for i := range uint32(500) {
		n, m, k := c.below(600), c.below(40), uint32(c.below(5))
		nonce := seal.Nonce(uint64(i), 0)
		keys := [][]byte{one.Derive(keyOf(k), []byte("page")), other.Derive(keyOf(k+100), []byte("page"))}
		a := sealedBy(t, one, keys[0], nonce, row(m, i), row(n, i))
		b := sealedBy(t, other, keys[1], nonce, row(m, i+1000), make([]byte, n))
		if !bytes.Equal(a, b) || !bytes.Equal(keys[0], keys[1]) {
			t.Fatalf("time %d: %x and %x, under %x", i, a, b, keys)
		}
		opens(t, one, keys[0], nonce, row(m, i), a, row(n, i))
		opens(t, other, keys[1], nonce, row(m, i+1000), b, make([]byte, n))
	}
	tells(t, one, 500, false, false)
	tells(t, other, 500, false, false)
}

// TestForRealAsIdeally: P7, the same calls have the same codes and texts, each kind opening what it sealed itself.
func TestForRealAsIdeally(t *testing.T) {
	ideal, c := seal.New(true), chance(7)
	actual := seal.New(false)
	for i := range 500 {
		v := thing{keyOf(uint32(c.below(4))), seal.Nonce(uint64(c.below(20)), 1), row(c.below(5), 1), row(c.below(50), 2)}
		if i%10 == 0 {
			v.key = v.key[i%31+1:]
		}
		a, code := ideal.Seal(v.key, v.nonce, v.beside, v.text)
		b, as := actual.Seal(v.key, v.nonce, v.beside, v.text)
		if code != as || len(a) != len(b) {
			t.Fatalf("time %d: codes %d and %d, %d and %d bytes", i, code, as, len(a), len(b))
		}
		bit, beside := c.below(8*len(a)+200), row(c.below(5), 1)
		if bit < 8*len(a) {
			a, b = turned(a, bit), turned(b, bit)
		}
		x, code := ideal.Open(v.key, v.nonce, beside, a)
		y, as := actual.Open(v.key, v.nonce, beside, b)
		if code != as || !bytes.Equal(x, y) {
			t.Fatalf("time %d: %x with code %d, and %x with code %d", i, x, code, y, as)
		}
	}
	if ideal.Reused() != actual.Reused() || ideal.Sealed() != actual.Sealed() || actual.Forged() {
		t.Errorf("reused %t and %t, sealed %d and %d, forged %t", ideal.Reused(), actual.Reused(), ideal.Sealed(), actual.Sealed(), actual.Forged())
	}
}
