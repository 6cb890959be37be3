package aes_test

import (
	stdaes "crypto/aes"
	"encoding/hex"
	"testing"

	"deedbox/aes"
	"deedbox/api"
)

// text is so many bytes, of which none repeats soon; another seed has others.
func text(n int, seed uint32) []byte {
	b := make([]byte, n)
	x := seed*2654435761 + 1
	for i := range b {
		x = x*1664525 + 1013904223
		b[i] = byte(x >> 24)
	}
	return b
}

// block is the bytes of a block, noughts behind them if there are fewer.
func block(b []byte) [aes.Size]byte {
	var out [aes.Size]byte
	copy(out[:], b)
	return out
}

// unhex is the bytes of digits of sixteen.
func unhex(t *testing.T, s string) []byte {
	t.Helper()
	b, err := hex.DecodeString(s)
	if err != nil {
		t.Fatal(err)
	}
	return b
}

// cipherOf is the cipher of a key that is right.
func cipherOf(t *testing.T, tables *aes.Tables, key []byte) *aes.Cipher {
	t.Helper()
	c, code := aes.New(tables, key)
	if code != api.OK || c == nil {
		t.Fatalf("New of %x: %v, code %d", key, c, code)
	}
	return c
}

// known is what the library answers for a block under a key.
func known(t *testing.T, key []byte, b [aes.Size]byte) [aes.Size]byte {
	t.Helper()
	c, err := stdaes.NewCipher(key)
	if err != nil {
		t.Fatal(err)
	}
	var out [aes.Size]byte
	c.Encrypt(out[:], b[:])
	return out
}

// back is the block that the library opens.
func back(t *testing.T, key []byte, sealed [aes.Size]byte) [aes.Size]byte {
	t.Helper()
	c, err := stdaes.NewCipher(key)
	if err != nil {
		t.Fatal(err)
	}
	var out [aes.Size]byte
	c.Decrypt(out[:], sealed[:])
	return out
}

// someKeys is keys of all kinds: bytes alike, one bit alone, and many unlike ones.
func someKeys() [][]byte {
	var keys [][]byte
	for _, fill := range []byte{0, 1, 0x1b, 0x52, 0x63, 0x80, 0xff} {
		key := make([]byte, api.KeySize)
		for i := range key {
			key[i] = fill
		}
		keys = append(keys, key)
	}
	for bit := range 8 * api.KeySize {
		key := make([]byte, api.KeySize)
		key[bit/8] = 128 >> (bit % 8)
		keys = append(keys, key)
	}
	for seed := range uint32(200) {
		keys = append(keys, text(api.KeySize, seed))
	}
	return keys
}

// someBlocks is blocks of all kinds: bytes alike, one bit alone, and some unlike ones.
func someBlocks() [][aes.Size]byte {
	var blocks [][aes.Size]byte
	for c := range 256 {
		var b [aes.Size]byte
		for i := range b {
			b[i] = byte(c)
		}
		blocks = append(blocks, b)
	}
	for bit := range 8 * aes.Size {
		var b [aes.Size]byte
		b[bit/8] = 128 >> (bit % 8)
		blocks = append(blocks, b)
	}
	for seed := range uint32(50) {
		blocks = append(blocks, block(text(aes.Size, 1000+seed)))
	}
	return blocks
}

// TestConstants: how many rounds, and how many bytes a block has.
func TestConstants(t *testing.T) {
	if aes.Rounds != 14 || aes.Size != 16 {
		t.Errorf("Rounds %d, Size %d", aes.Rounds, aes.Size)
	}
}

// TestExample: the chapter's example, 4.2 and 4.3.
func TestExample(t *testing.T) {
	key := make([]byte, api.KeySize)
	for i := range key {
		key[i] = byte(i)
	}
	var b [aes.Size]byte
	for i := range b {
		b[i] = byte(17 * i)
	}
	got := cipherOf(t, aes.Build(), key).Block(b)
	if want := "8ea2b7ca516745bfeafc49904b496089"; hex.EncodeToString(got[:]) != want {
		t.Errorf("%x, want %s", got, want)
	}
}

// TestKnownBlocks: 4.3, what SP 800-38A and the known answers of the standard's tests give.
func TestKnownBlocks(t *testing.T) {
	const noughts = "0000000000000000000000000000000000000000000000000000000000000000"
	const other = "603deb1015ca71be2b73aef0857d77811f352c073b6108d72d9810a30914dff4"
	for _, c := range []struct {
		key, block, want string
	}{
		{other, "6bc1bee22e409f96e93d7e117393172a", "f3eed1bdb5d2a03c064b5a7e3db181f8"},
		{other, "ae2d8a571e03ac9c9eb76fac45af8e51", "591ccb10d410ed26dc5ba74a31362870"},
		{other, "30c81c46a35ce411e5fbc1191a0a52ef", "b6ed21b99ca6f4f9f153e7b1beafed1d"},
		{other, "f69f2445df4f9b17ad2b417be66c3710", "23304b7a39f9f3ff067d8d8f9e24ecc7"},
		{noughts, "00000000000000000000000000000000", "dc95c078a2408989ad48a21492842087"},
		{noughts, "80000000000000000000000000000000", "ddc6bf790c15760d8d9aeb6f9a75fd4e"},
	} {
		got := cipherOf(t, aes.Build(), unhex(t, c.key)).Block(block(unhex(t, c.block)))
		if hex.EncodeToString(got[:]) != c.want {
			t.Errorf("%s under %s: %x, want %s", c.block, c.key, got, c.want)
		}
	}
}

// TestAnyBlockUnderAnyKey: 4.2 and 4.3, as the library has it; the library opens what is sealed, so unlike blocks are unlike (4.4).
func TestAnyBlockUnderAnyKey(t *testing.T) {
	tables := aes.Build()
	blocks := someBlocks()
	for _, key := range someKeys() {
		c := cipherOf(t, tables, key)
		for _, b := range blocks {
			got := c.Block(b)
			if want := known(t, key, b); got != want {
				t.Fatalf("%x under %x: %x, want %x", b, key, got, want)
			}
			if opened := back(t, key, got); opened != b {
				t.Fatalf("%x under %x is opened as %x", b, key, opened)
			}
		}
	}
}

// TestChain: 4.3, each block is the last one sealed, and each key hangs on it, too.
func TestChain(t *testing.T) {
	tables := aes.Build()
	key := text(api.KeySize, 77)
	var b [aes.Size]byte
	for i := range 2000 {
		got := cipherOf(t, tables, key).Block(b)
		if want := known(t, key, b); got != want {
			t.Fatalf("link %d, %x under %x: %x, want %x", i, b, key, got, want)
		}
		b = got
		for j, x := range b {
			key[(i+2*j)%len(key)] ^= x
		}
	}
}

// TestUnlikeBlocks: 4.4, blocks that part in two bytes alone, wherever these stand.
func TestUnlikeBlocks(t *testing.T) {
	tables := aes.Build()
	for at, key := range [][]byte{make([]byte, api.KeySize), text(api.KeySize, 1), text(api.KeySize, 2)} {
		c := cipherOf(t, tables, key)
		seen := map[[aes.Size]byte]int{}
		for n := range 1 << 16 {
			b := block(text(aes.Size, 5))
			b[at], b[15-at] = byte(n>>8), byte(n)
			sealed := c.Block(b)
			if before, ok := seen[sealed]; ok {
				t.Fatalf("under %x blocks %d and %d are sealed alike: %x", key, before, n, sealed)
			}
			seen[sealed] = n
		}
	}
}

// TestUnlikeKeys: 4.2, each bit of a key counts.
func TestUnlikeKeys(t *testing.T) {
	tables := aes.Build()
	b := block(text(aes.Size, 9))
	key := text(api.KeySize, 3)
	was := cipherOf(t, tables, key).Block(b)
	for bit := range 8 * len(key) {
		key[bit/8] ^= 128 >> (bit % 8)
		if cipherOf(t, tables, key).Block(b) == was {
			t.Errorf("bit %d of the key does not count", bit)
		}
		key[bit/8] ^= 128 >> (bit % 8)
	}
}

// TestSealedAgain: 4.3 and P8, what a block becomes hangs on it and on the key alone, however many were sealed ahead.
func TestSealedAgain(t *testing.T) {
	tables := aes.Build()
	one, other := text(api.KeySize, 4), text(api.KeySize, 5)
	c, d := cipherOf(t, tables, one), cipherOf(t, aes.Build(), other)
	for range 3 {
		for _, b := range someBlocks() {
			was := b
			got := c.Block(b)
			if got != known(t, one, b) || d.Block(b) != known(t, other, b) {
				t.Fatalf("%x is not sealed as it was", b)
			}
			clear(got[:])
			if b != was {
				t.Fatalf("the block that was handed in was changed: %x, was %x", b, was)
			}
		}
	}
}
