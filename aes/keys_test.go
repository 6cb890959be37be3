package aes

import (
	"encoding/hex"
	"strings"
	"testing"

	"deedbox/api"
)

// standardWords is the words that FIPS 197 gives in its appendix A.3 for the key that they begin with.
const standardWords = "" +
	"603deb10 15ca71be 2b73aef0 857d7781 1f352c07 3b6108d7 2d9810a3 0914dff4 " +
	"9ba35411 8e6925af a51a8b5f 2067fcde a8b09c1a 93d194cd be49846e b75d5b9a " +
	"d59aecb8 5bf3c917 fee94248 de8ebe96 b5a9328a 2678a647 98312229 2f6c79b3 " +
	"812c81ad dadf48ba 24360af2 fab8b464 98c5bfc9 bebd198e 268c3ba7 09e04214 " +
	"68007bac b2df3316 96e939e4 6c518d80 c814e204 76a9fb8a 5025c02d 59c58239 " +
	"de136967 6ccc5a71 fa256395 9674ee15 5886ca5d 2e2f31d7 7e0af1fa 27cf73c3 " +
	"749c47ab 18501dda e2757e4f 7401905a cafaaae3 e4d59b34 9adf6ace bd10190d " +
	"fe4890d1 e6188d0b 046df344 706c631e"

// TestKeysOfRounds: 4.2, the key of round r is the words 4r to 4r + 3.
func TestKeysOfRounds(t *testing.T) {
	words := strings.Fields(standardWords)
	if len(words) != 4*(Rounds+1) {
		t.Fatalf("%d words", len(words))
	}
	key, err := hex.DecodeString(strings.Join(words[:8], ""))
	if err != nil {
		t.Fatal(err)
	}
	c, code := New(Build(), key)
	if code != api.OK {
		t.Fatal(code)
	}
	if len(c.keys) != Rounds+1 {
		t.Fatalf("%d keys", len(c.keys))
	}
	for r, k := range c.keys {
		if got, want := hex.EncodeToString(k[:]), strings.Join(words[4*r:4*r+4], ""); got != want {
			t.Errorf("round %d: %s, want %s", r, got, want)
		}
	}
}

// TestTwice: 4.3, 2 times each byte, as it is multiplied in 4.1.
func TestTwice(t *testing.T) {
	tables := Build()
	for c := range 256 {
		want := 2 * c
		if want > 255 {
			want ^= 0x11b
		}
		if got := tables.twice[c]; int(got) != want {
			t.Errorf("2 times %02x: %02x, want %02x", c, got, want)
		}
	}
}

// TestMixedColumns: 4.3, columns whose mixed ones are known, each on its own.
func TestMixedColumns(t *testing.T) {
	from := [Size]byte{0xdb, 0x13, 0x53, 0x45, 0xf2, 0x0a, 0x22, 0x5c, 0x01, 0x01, 0x01, 0x01, 0x2d, 0x26, 0x31, 0x4c}
	want := [Size]byte{0x8e, 0x4d, 0xa1, 0xbc, 0x9f, 0xdc, 0x58, 0x9d, 0x01, 0x01, 0x01, 0x01, 0x4d, 0x7e, 0xbd, 0xf8}
	if got := Build().mixed(from); got != want {
		t.Errorf("%x, want %x", got, want)
	}
}
