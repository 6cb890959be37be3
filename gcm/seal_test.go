package gcm_test

import (
	"bytes"
	"encoding/hex"
	"testing"

	"deedbox/aes"
	"deedbox/api"
	"deedbox/field"
	"deedbox/octet"
)

// TestExample: the chapter's example.
func TestExample(t *testing.T) {
	g := keyOf(t, make([]byte, api.KeySize))
	nonce, block := make([]byte, api.NonceSize), make([]byte, aes.Size)
	sealed := sealedBy(t, g, nonce, nil, block)
	const want = "cea7403d4d606b6e074ec5d3baf39d18" + "d0d1c8a799996bf0265b98b5d48ab919"
	if hex.EncodeToString(sealed) != want {
		t.Errorf("%x, want %s", sealed, want)
	}
	if opened, code := g.Open(nonce, nil, unhex(t, want)); code != api.OK || !bytes.Equal(opened, block) {
		t.Errorf("opened: %x, code %d", opened, code)
	}
}

// TestKnownTexts: 6.2 to 6.4 and P5, what the tests of the standard's authors give for keys of 256 bits.
func TestKnownTexts(t *testing.T) {
	const key = "feffe9928665731c6d6a8f9467308308feffe9928665731c6d6a8f9467308308"
	const plain = "d9313225f88406e5a55909c5aff5269a86a7a9531534f7da2e4c303d8a318a72" +
		"1c3c0c95956809532fcf0e2449a6b525b16aedf5aa0de657ba637b39"
	const sealed = "522dc1f099567d07f47f37a32a84427d643a8cdcbfe5c0c97598a2bd2555d1aa" +
		"8cb08e48590dbb3da7b08b1056828838c5f61e6393ba7a0abcc9f662"
	const noughts = "0000000000000000000000000000000000000000000000000000000000000000"
	for _, c := range []struct {
		key, nonce, beside, text, want string
	}{
		{noughts, "000000000000000000000000", "", "", "530f8afbc74536b9a963b4f1c4cb738b"},
		{key, "cafebabefacedbaddecaf888", "", plain + "1aafd255", sealed + "898015ad" + "b094dac5d93471bdec1a502270e3cc6c"},
		{key, "cafebabefacedbaddecaf888", "feedfacedeadbeeffeedfacedeadbeefabaddad2", plain, sealed + "76fc6ece0f4e1768cddf8853bb2d551b"},
	} {
		g := keyOf(t, unhex(t, c.key))
		nonce, beside := unhex(t, c.nonce), unhex(t, c.beside)
		if got := sealedBy(t, g, nonce, beside, unhex(t, c.text)); hex.EncodeToString(got) != c.want {
			t.Errorf("%s beside %s: %x, want %s", c.text, c.beside, got, c.want)
		}
		if got, code := g.Open(nonce, beside, unhex(t, c.want)); code != api.OK || hex.EncodeToString(got) != c.text {
			t.Errorf("%s is opened as %x, code %d", c.want, got, code)
		}
	}
}

// byItsWords is 6.1 to 6.3, word by word, of the layers below.
func byItsWords(t *testing.T, key, nonce, beside, plain []byte) []byte {
	t.Helper()
	c, code := aes.New(aes.Build(), key)
	if code != api.OK {
		t.Fatalf("code %d", code)
	}
	block := func(n int) []byte {
		var b [aes.Size]byte
		copy(b[:], nonce)
		b[12], b[13], b[14], b[15] = byte(n>>24), byte(n>>16), byte(n>>8), byte(n)
		b = c.Block(b)
		return b[:]
	}
	var out []byte
	for i, x := range plain {
		out = append(out, x^block(2 + i/16)[i%16])
	}
	nought := c.Block([aes.Size]byte{})
	h := field.From(nought[:])
	sum := field.Element{}
	lengths := octet.Join(octet.Put(uint64(len(beside)*8), 8), octet.Put(uint64(len(out)*8), 8))
	for _, b := range [][]byte{beside, out, lengths} {
		for at := 0; at < len(b); at += 16 {
			sum = field.Times(sum.Add(field.From(b[at:])), h)
		}
	}
	return append(out, sum.Add(field.From(block(1))).Bytes()...)
}

// TestByItsWords: 6.1 to 6.3, as the chapter says it, of any key and nonce.
func TestByItsWords(t *testing.T) {
	for seed := range uint32(60) {
		key, nonce := text(api.KeySize, seed), text(api.NonceSize, seed+100)
		beside, plain := text(int(seed*7%53), seed+200), text(int(seed*5%71), seed+300)
		got := sealedBy(t, keyOf(t, key), nonce, beside, plain)
		if want := byItsWords(t, key, nonce, beside, plain); !bytes.Equal(got, want) {
			t.Errorf("seed %d: %x, want %x", seed, got, want)
		}
	}
}

// TestNonceSizes: 6.2 and R2, ErrSize and nothing else but at 12 bytes, whatever the text and what lies behind the nonce.
func TestNonceSizes(t *testing.T) {
	g := keyOf(t, text(api.KeySize, 1))
	whole := text(5*api.NonceSize, 2)
	for n := range len(whole) + 1 {
		for _, plain := range [][]byte{nil, {}, text(1, 3), text(16, 3), text(100, 3)} {
			got, code := g.Seal(whole[:n], text(5, 4), plain)
			if n == api.NonceSize {
				if code != api.OK || len(got) != len(plain)+api.Tag {
					t.Errorf("a nonce of %d bytes: %x, code %d", n, got, code)
				}
				continue
			}
			if code != api.ErrSize || len(got) != 0 {
				t.Errorf("a nonce of %d bytes: %x, code %d", n, got, code)
			}
		}
	}
	for _, nonce := range [][]byte{nil, {}} {
		if got, code := g.Seal(nonce, nil, nil); code != api.ErrSize || len(got) != 0 {
			t.Errorf("the nonce %v: %x, code %d", nonce, got, code)
		}
	}
}

// TestEachLength: 6.2 and 6.3, texts and what stands beside, of no bytes, of whole blocks, and of a last block that is not whole: each length with each.
func TestEachLength(t *testing.T) {
	key, nonce := text(api.KeySize, 5), text(api.NonceSize, 6)
	g, known := keyOf(t, key), library(t, key)
	for m := range 4*aes.Size + 2 {
		beside := text(m, 7)
		for n := range 4*aes.Size + 2 {
			plain := text(n, 8)
			got := sealedBy(t, g, nonce, beside, plain)
			if want := known.Seal(nil, nonce, plain, beside); !bytes.Equal(got, want) {
				t.Fatalf("%d bytes beside %d: %x, want %x", n, m, got, want)
			}
		}
	}
}

// TestManyBlocks: 6.2 and 6.3, so many that the number behind the nonce goes on to its second and third byte.
func TestManyBlocks(t *testing.T) {
	key, nonce := text(api.KeySize, 9), text(api.NonceSize, 10)
	g, known := keyOf(t, key), library(t, key)
	for _, blocks := range []int{31, 253, 254, 255, 256, 1024, 1<<16 - 2, 1<<16 + 2} {
		for _, more := range []int{-1, 0, 1} {
			n := blocks*aes.Size + more
			plain, beside := text(n, 11), text(n/7, 12)
			got := sealedBy(t, g, nonce, beside, plain)
			if want := known.Seal(nil, nonce, plain, beside); !bytes.Equal(got, want) {
				t.Fatalf("%d bytes are not sealed as the library does it", n)
			}
			if opened, code := g.Open(nonce, beside, got); code != api.OK || !bytes.Equal(opened, plain) {
				t.Fatalf("%d bytes are not opened as they were: code %d", n, code)
			}
		}
	}
}

// TestEachBitOfANonce: 6.2 and 6.3, each bit counts, for the text and for the tag.
func TestEachBitOfANonce(t *testing.T) {
	key, nonce, plain := text(api.KeySize, 13), text(api.NonceSize, 14), text(40, 15)
	g, known := keyOf(t, key), library(t, key)
	was := sealedBy(t, g, nonce, nil, plain)
	for bit := range 8 * len(nonce) {
		nonce[bit/8] ^= 128 >> (bit % 8)
		got := sealedBy(t, g, nonce, nil, plain)
		if want := known.Seal(nil, nonce, plain, nil); !bytes.Equal(got, want) {
			t.Errorf("bit %d of the nonce: %x, want %x", bit, got, want)
		}
		if bytes.Equal(got[:len(plain)], was[:len(plain)]) || bytes.Equal(got[len(plain):], was[len(plain):]) {
			t.Errorf("bit %d of the nonce does not count: %x, was %x", bit, got, was)
		}
		nonce[bit/8] ^= 128 >> (bit % 8)
	}
}

// TestBesideIsNotText: 6.3, what stands beside changes the tag alone; noughts behind it, and bytes that change sides, are told by the lengths.
func TestBesideIsNotText(t *testing.T) {
	g, nonce := keyOf(t, text(api.KeySize, 16)), text(api.NonceSize, 17)
	plain := text(20, 18)
	seen := map[string]int{}
	for n := range 3*aes.Size + 1 {
		got := sealedBy(t, g, nonce, make([]byte, n), plain)
		if first := sealedBy(t, g, nonce, nil, plain); !bytes.Equal(got[:len(plain)], first[:len(plain)]) {
			t.Errorf("%d noughts beside change the text: %x, was %x", n, got, first)
		}
		if before, ok := seen[string(got)]; ok {
			t.Errorf("%d and %d noughts beside are sealed alike", before, n)
		}
		seen[string(got)] = n
	}
	sealed := sealedBy(t, g, nonce, nil, plain)
	if got, code := g.Open(nonce, sealed[:16], sealed[16:]); code != api.ErrIntegrity || len(got) != 0 {
		t.Errorf("a block that was sealed, beside instead: %x, code %d", got, code)
	}
}

// TestSealedAgain: P8, what is sealed hangs on the key and on what is handed in alone, however much was sealed ahead.
func TestSealedAgain(t *testing.T) {
	key, nonce, beside, plain := text(api.KeySize, 19), text(api.NonceSize, 20), text(21, 21), text(77, 22)
	g := keyOf(t, key)
	want := library(t, key).Seal(nil, nonce, plain, beside)
	for i := range 20 {
		if got := sealedBy(t, g, nonce, beside, plain); !bytes.Equal(got, want) {
			t.Fatalf("time %d: %x, want %x", i, got, want)
		}
		sealedBy(t, g, text(api.NonceSize, uint32(i)), plain, text(i, 23))
		g.Seal(nonce[1:], beside, plain)
		g.Open(nonce, beside, want[i:])
	}
}
