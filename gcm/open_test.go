package gcm_test

import (
	"bytes"
	"slices"
	"testing"

	"deedbox/aes"
	"deedbox/api"
	"deedbox/gcm"
)

// lengths is how many bytes texts have: none, and those about the ends of blocks.
func lengths() []int {
	return []int{0, 1, 2, 15, 16, 17, 31, 32, 33, 47, 48, 49, 100, api.Room}
}

// refused tells of an answer that should have been nothing but a code.
func refused(t *testing.T, g *gcm.Gcm, nonce, beside, sealed []byte, want api.Code, what string) {
	t.Helper()
	if got, code := g.Open(nonce, beside, sealed); code != want || len(got) != 0 {
		t.Errorf("%s: %x, code %d, want %d", what, got, code, want)
	}
}

// turned is bytes with one bit turned.
func turned(b []byte, bit int) []byte {
	out := bytes.Clone(b)
	out[bit/8] ^= 128 >> (bit % 8)
	return out
}

// TestOpenNonceSizes: 6.4, ErrSize but at 12 bytes, also where what is sealed is too short, or not right: it is named first.
func TestOpenNonceSizes(t *testing.T) {
	g := keyOf(t, text(api.KeySize, 1))
	whole := text(5*api.NonceSize, 2)
	right := sealedBy(t, g, whole[:api.NonceSize], nil, text(9, 3))
	for n := range len(whole) + 1 {
		if n == api.NonceSize {
			if got, code := g.Open(whole[:n], nil, right); code != api.OK || !bytes.Equal(got, text(9, 3)) {
				t.Errorf("a nonce of %d bytes: %x, code %d", n, got, code)
			}
			continue
		}
		for _, sealed := range [][]byte{right, turned(right, 0), right[:15], {}, nil} {
			refused(t, g, whole[:n], nil, sealed, api.ErrSize, "a nonce of another length")
		}
	}
	refused(t, g, nil, nil, nil, api.ErrSize, "no nonce")
}

// TestTooShort: 6.4, ErrShort for fewer bytes than a tag has, also where more lie behind; from sixteen on the tag is asked for.
func TestTooShort(t *testing.T) {
	g, nonce := keyOf(t, text(api.KeySize, 4)), text(api.NonceSize, 5)
	for _, plain := range [][]byte{nil, text(1, 6), text(40, 6)} {
		sealed := sealedBy(t, g, nonce, nil, plain)
		for n := range api.Tag {
			refused(t, g, nonce, nil, sealed[:n], api.ErrShort, "fewer bytes than a tag has")
			refused(t, g, nonce, text(3, 7), sealed[len(sealed)-n:], api.ErrShort, "a piece of a tag")
		}
		for n := api.Tag; n < len(sealed); n++ {
			refused(t, g, nonce, nil, sealed[:n], api.ErrIntegrity, "the beginning of what was sealed")
			refused(t, g, nonce, nil, sealed[len(sealed)-n:], api.ErrIntegrity, "the end of what was sealed")
		}
	}
	refused(t, g, nonce, nil, nil, api.ErrShort, "nothing")
	refused(t, g, nonce, nil, []byte{}, api.ErrShort, "no bytes")
	refused(t, g, nonce, nil, make([]byte, api.Tag), api.ErrIntegrity, "sixteen noughts")
}

// TestThereAndBack: 6.5, each text is opened as it was, and as the library sealed it.
func TestThereAndBack(t *testing.T) {
	for seed := range uint32(4) {
		key, nonce := text(api.KeySize, seed), text(api.NonceSize, seed+10)
		g, known := keyOf(t, key), library(t, key)
		for _, m := range lengths() {
			for n := range 5*aes.Size + 2 {
				beside, plain := text(m, seed+20), text(n, seed+30)
				sealed := sealedBy(t, g, nonce, beside, plain)
				if got, code := g.Open(nonce, beside, sealed); code != api.OK || !bytes.Equal(got, plain) {
					t.Fatalf("%d bytes beside %d: %x, want %x, code %d", n, m, got, plain, code)
				}
				if got, code := g.Open(nonce, beside, known.Seal(nil, nonce, plain, beside)); code != api.OK || !bytes.Equal(got, plain) {
					t.Fatalf("%d bytes beside %d, by the library: %x, want %x, code %d", n, m, got, plain, code)
				}
				if got, err := known.Open(nil, nonce, sealed, beside); err != nil || !bytes.Equal(got, plain) {
					t.Fatalf("%d bytes beside %d, opened by the library: %x, want %x, %v", n, m, got, plain, err)
				}
			}
		}
	}
}

// TestWhatOpensIsSealedSo: 6.5, of all bytes that may stand in a tag's place, whatever the others are, just what Seal makes is opened; the text is sealed as that again.
func TestWhatOpensIsSealedSo(t *testing.T) {
	g, nonce, beside := keyOf(t, text(api.KeySize, 40)), text(api.NonceSize, 41), text(19, 42)
	for _, n := range lengths() {
		plain := text(n, 43)
		right := sealedBy(t, g, nonce, beside, plain)
		for at := n; at < len(right); at++ {
			for c := range 256 {
				sealed := bytes.Clone(right)
				sealed[at] = byte(c)
				got, code := g.Open(nonce, beside, sealed)
				if (code == api.OK) != bytes.Equal(sealed, right) {
					t.Fatalf("%d bytes, byte %d is %02x: %x, code %d", n, at, c, got, code)
				}
				if code == api.OK && !bytes.Equal(sealedBy(t, g, nonce, beside, got), sealed) {
					t.Fatalf("%d bytes: %x is not sealed as what it was opened from", n, got)
				}
			}
		}
	}
}

// TestEachTurnedBit: 6.4 and 6.5, of the tag, of what was sealed, of what stands beside, and of the nonce.
func TestEachTurnedBit(t *testing.T) {
	g, nonce := keyOf(t, text(api.KeySize, 44)), text(api.NonceSize, 45)
	for _, m := range []int{0, 1, 16, 21} {
		for _, n := range []int{0, 1, 15, 16, 17, 40} {
			beside := text(m, 46)
			sealed := sealedBy(t, g, nonce, beside, text(n, 47))
			for bit := range 8 * len(sealed) {
				refused(t, g, nonce, beside, turned(sealed, bit), api.ErrIntegrity, "a turned bit of what was sealed")
			}
			for bit := range 8 * m {
				refused(t, g, nonce, turned(beside, bit), sealed, api.ErrIntegrity, "a turned bit of what stands beside")
			}
			for bit := range 8 * len(nonce) {
				refused(t, g, turned(nonce, bit), beside, sealed, api.ErrIntegrity, "a turned bit of the nonce")
			}
		}
	}
}

// TestTwoTurnedBits: 6.4, no two bits of a tag make up for each other: all of its bytes are held against it together.
func TestTwoTurnedBits(t *testing.T) {
	g, nonce := keyOf(t, text(api.KeySize, 48)), text(api.NonceSize, 49)
	sealed := sealedBy(t, g, nonce, nil, text(5, 50))
	first := 8 * 5
	for one := first; one < 8*len(sealed); one++ {
		for other := one + 1; other < 8*len(sealed); other++ {
			refused(t, g, nonce, nil, turned(turned(sealed, one), other), api.ErrIntegrity, "two turned bits of the tag")
		}
	}
}

// TestLongerOrShorter: 6.4, bytes more or fewer, beside and in what was sealed, are told.
func TestLongerOrShorter(t *testing.T) {
	g, nonce := keyOf(t, text(api.KeySize, 51)), text(api.NonceSize, 52)
	for _, m := range lengths() {
		for _, n := range lengths() {
			beside := text(m, 53)
			sealed := sealedBy(t, g, nonce, beside, text(n, 54))
			refused(t, g, nonce, slices.Concat(beside, []byte{0}), sealed, api.ErrIntegrity, "a nought behind what stands beside")
			refused(t, g, nonce, slices.Concat([]byte{0}, beside), sealed, api.ErrIntegrity, "a nought ahead of what stands beside")
			refused(t, g, nonce, beside, slices.Concat(sealed, []byte{0}), api.ErrIntegrity, "a nought behind the tag")
			refused(t, g, nonce, beside, slices.Concat(sealed[:n], []byte{0}, sealed[n:]), api.ErrIntegrity, "a nought ahead of the tag")
			refused(t, g, nonce, beside, slices.Concat([]byte{0}, sealed), api.ErrIntegrity, "a nought ahead of all")
			if m > 0 {
				refused(t, g, nonce, beside[:m-1], sealed, api.ErrIntegrity, "a byte fewer beside")
				refused(t, g, nonce, nil, sealed, api.ErrIntegrity, "nothing beside")
			}
			if n > 0 {
				refused(t, g, nonce, beside, slices.Delete(bytes.Clone(sealed), n-1, n), api.ErrIntegrity, "a byte fewer of the text")
			}
		}
	}
}

// TestBlocksThatChangePlaces: 6.4, blocks that were sealed are told where they do not stand as they did; so is a tag of another text.
func TestBlocksThatChangePlaces(t *testing.T) {
	g, nonce := keyOf(t, text(api.KeySize, 55)), text(api.NonceSize, 56)
	one := sealedBy(t, g, nonce, nil, text(64, 57))
	other := sealedBy(t, g, nonce, nil, text(64, 58))
	for i := range 4 {
		for j := range i {
			a, b := 16*i, 16*j
			changed := bytes.Clone(one)
			copy(changed[a:a+16], one[b:])
			copy(changed[b:b+16], one[a:])
			refused(t, g, nonce, nil, changed, api.ErrIntegrity, "two blocks that changed places")
		}
	}
	refused(t, g, nonce, nil, slices.Concat(one[:64], other[64:]), api.ErrIntegrity, "the tag of another text")
	refused(t, g, nonce, nil, slices.Concat(one[64:], one[:64]), api.ErrIntegrity, "the tag ahead of the text")
}
