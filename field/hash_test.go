package field_test

import (
	"bytes"
	stdaes "crypto/aes"
	"crypto/cipher"
	"encoding/binary"
	"encoding/hex"
	"testing"

	"deedbox/field"
)

// hashed is 5.3, word by word, by the product of the tests.
func hashed(e, from field.Element, b []byte) field.Element {
	for at := 0; at < len(b); at += size {
		block := make([]byte, size)
		copy(block, b[at:])
		from = product(from.Add(field.From(block)), e)
	}
	return from
}

// lengths is the block of eight times the length of each.
func lengths(a, b int) []byte {
	out := binary.BigEndian.AppendUint64(nil, 8*uint64(a))
	return binary.BigEndian.AppendUint64(out, 8*uint64(b))
}

// TestHashAtAllLengths: 5.3, from any element, of no bytes, of whole blocks, and of a last one that is not whole.
func TestHashAtAllLengths(t *testing.T) {
	for _, e := range some(3) {
		table := field.Build(e)
		for i, from := range []field.Element{{}, power(0), power(127), field.From(filled(0xff)), field.From(text(size, 11))} {
			for n := range 4*size + 2 {
				b := text(n, uint32(n+i))
				if got, want := table.Hash(from, b), hashed(e, from, b); got != want {
					t.Fatalf("under %x, from %x, of %x: %x, want %x", e.Bytes(), from.Bytes(), b, got.Bytes(), want.Bytes())
				}
			}
		}
	}
}

// TestHashOfNothing: 5.3, of no bytes, the last from is the first.
func TestHashOfNothing(t *testing.T) {
	table := field.Build(field.From(text(size, 12)))
	for _, from := range some(40) {
		for _, b := range [][]byte{nil, {}} {
			if got := table.Hash(from, b); got != from {
				t.Errorf("from %x: %x", from.Bytes(), got.Bytes())
			}
		}
	}
}

// TestHashOfOneBlock: 5.3, from and the block, times the table's element.
func TestHashOfOneBlock(t *testing.T) {
	e := field.From(text(size, 13))
	table := field.Build(e)
	for _, from := range some(40) {
		for _, block := range some(40) {
			if got, want := table.Hash(from, block.Bytes()), field.Times(from.Add(block), e); got != want {
				t.Fatalf("from %x, of %x: %x, want %x", from.Bytes(), block.Bytes(), got.Bytes(), want.Bytes())
			}
		}
	}
}

// TestHashGoesOn: 5.3, whole blocks may come one by one; the last from of some is the first of the rest.
func TestHashGoesOn(t *testing.T) {
	table := field.Build(field.From(text(size, 14)))
	from := field.From(text(size, 15))
	for n := range 5*size + 1 {
		b := text(n, 16)
		want := table.Hash(from, b)
		for at := 0; at <= n; at += size {
			if got := table.Hash(table.Hash(from, b[:at]), b[at:]); got != want {
				t.Errorf("%d bytes, parted at %d: %x, want %x", n, at, got.Bytes(), want.Bytes())
			}
		}
	}
}

// TestLastBlock: 5.3, noughts behind the last block, up to its end, make no difference; beyond its end they do.
func TestLastBlock(t *testing.T) {
	table := field.Build(field.From(text(size, 17)))
	from := field.From(text(size, 18))
	for n := 1; n <= 3*size; n++ {
		b := text(n, 19)
		want := table.Hash(from, b)
		for len(b)%size > 0 {
			b = append(b, 0)
			if got := table.Hash(from, b); got != want {
				t.Errorf("%d bytes, with noughts %d: %x, want %x", n, len(b), got.Bytes(), want.Bytes())
			}
		}
		if got := table.Hash(from, append(b, 0)); got == want {
			t.Errorf("%d bytes: a block of noughts behind counts for nothing", n)
		}
	}
}

// TestKnownHashes: 5.3, what the tests of the standard's authors give.
func TestKnownHashes(t *testing.T) {
	const text4 = "42831ec2217774244b7221b784d0d49ce3aa212f2c02a4e035c17e2329aca12e" +
		"21d514b25466931c7d8f6a5aac84aa051ba30b396a0aac973d58e091"
	for _, c := range []struct {
		h, beside, text, want string
	}{
		{"66e94bd4ef8a2c3b884cfa59ca342b2e", "", "", "00000000000000000000000000000000"},
		{"66e94bd4ef8a2c3b884cfa59ca342b2e", "", "0388dace60b6a392f328c2b971b2fe78", "f38cbb1ad69223dcc3457ae5b6b0f885"},
		{"b83b533708bf535d0aa6e52980d53b78", "", text4 + "473f5985", "7f1b32b81b820d02614f8895ac1d4eac"},
		{"b83b533708bf535d0aa6e52980d53b78", "feedfacedeadbeeffeedfacedeadbeefabaddad2", text4, "698e57f70e6ecc7fd9463b7260a9ae5f"},
	} {
		table := field.Build(field.From(unhex(t, c.h)))
		beside, sealed := unhex(t, c.beside), unhex(t, c.text)
		got := table.Hash(table.Hash(table.Hash(field.Element{}, beside), sealed), lengths(len(beside), len(sealed)))
		if hex.EncodeToString(got.Bytes()) != c.want {
			t.Errorf("under %s, of %s and %s: %x, want %s", c.h, c.beside, c.text, got.Bytes(), c.want)
		}
	}
}

// TestHashAsTheLibrary: 5.3 and P5, the library's tag of what stands beside no text is the hash, exclusive-ored with a block.
func TestHashAsTheLibrary(t *testing.T) {
	for seed := range uint32(20) {
		block, err := stdaes.NewCipher(text(32, seed))
		if err != nil {
			t.Fatal(err)
		}
		library, err := cipher.NewGCM(block)
		if err != nil {
			t.Fatal(err)
		}
		h, mask := make([]byte, size), make([]byte, size)
		block.Encrypt(h, h)
		nonce := text(library.NonceSize(), seed+100)
		block.Encrypt(mask, append(bytes.Clone(nonce), 0, 0, 0, 1))
		table := field.Build(field.From(h))
		for _, n := range []int{0, 1, 15, 16, 17, 31, 32, 33, 63, 64, 65, 500, 1 << 14, 1<<14 + 5} {
			beside := text(n, seed+200)
			got := table.Hash(table.Hash(field.Element{}, beside), lengths(n, 0)).Add(field.From(mask))
			if want := library.Seal(nil, nonce, nil, beside); !bytes.Equal(got.Bytes(), want) {
				t.Errorf("key %d, %d bytes: %x, want %x", seed, n, got.Bytes(), want)
			}
		}
	}
}

// TestHashStaysInItsLength: R3, what is handed in stays as it was, and what lies behind its length is not read to fill the last block up.
func TestHashStaysInItsLength(t *testing.T) {
	e, from := field.From(text(size, 20)), field.From(text(size, 21))
	table := field.Build(e)
	for n := range 3*size + 1 {
		whole := text(5*size, 22)
		was := bytes.Clone(whole)
		got := table.Hash(from, whole[:n])
		if want := hashed(e, from, bytes.Clone(was[:n])); got != want {
			t.Errorf("%d bytes with more behind: %x, want %x", n, got.Bytes(), want.Bytes())
		}
		if !bytes.Equal(whole, was) {
			t.Errorf("%d bytes: what was handed in was changed: %x, was %x", n, whole, was)
		}
		if from != field.From(text(size, 21)) {
			t.Errorf("%d bytes: the first from was changed", n)
		}
	}
}
