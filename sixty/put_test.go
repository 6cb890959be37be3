package sixty_test

import (
	"bytes"
	"encoding/base64"
	"fmt"
	"strconv"
	"strings"
	"testing"

	"deedbox/api"
	"deedbox/sixty"
)

// letters is all of them, each at its number.
const letters = "ABCDEFGHIJKLMNOPQRSTUVWXYZabcdefghijklmnopqrstuvwxyz0123456789+/"

// text is so many bytes, of which none repeats soon; another seed has others.
func text(n int, seed uint32) []byte {
	b := make([]byte, n)
	x := seed*2654435761 + 1
	for i := range b {
		x = x*1664525 + 1013904223
		b[i] = byte(x >> 24)
	}
	return b
}

// reckoned is 7.1, word by word: the bits as digits, six by six.
func reckoned(b []byte) string {
	var bits, out strings.Builder
	for _, c := range b {
		fmt.Fprintf(&bits, "%08b", c)
	}
	for bits.Len()%6 != 0 {
		bits.WriteByte('0')
	}
	for all := bits.String(); all != ""; all = all[6:] {
		n, _ := strconv.ParseUint(all[:6], 2, 8)
		out.WriteByte(letters[n])
	}
	for out.Len()%4 != 0 {
		out.WriteByte('=')
	}
	return out.String()
}

// checkPut holds Put against the chapter's words and against the library.
func checkPut(t *testing.T, b []byte) {
	t.Helper()
	got := sixty.Put(b)
	if want := reckoned(b); got != want {
		t.Errorf("Put of %x: %s, want %s", b, got, want)
	}
	if want := base64.StdEncoding.EncodeToString(b); got != want {
		t.Errorf("Put of %x: %s, the library has %s", b, got, want)
	}
}

// TestExample: the chapter's example.
func TestExample(t *testing.T) {
	if s := sixty.Put([]byte("foob")); s != "Zm9vYg==" {
		t.Error(s)
	}
	if b, code := sixty.Get("Zm9vYg=="); code != api.OK || string(b) != "foob" {
		t.Errorf("%q, code %d", b, code)
	}
	if b, code := sixty.Get("Zm9vYh=="); code != api.ErrForm || len(b) != 0 {
		t.Errorf("%q, code %d", b, code)
	}
}

// TestKnown: 7.1 and 7.2, the vectors of RFC 4648.
func TestKnown(t *testing.T) {
	for plain, want := range map[string]string{
		"":       "",
		"f":      "Zg==",
		"fo":     "Zm8=",
		"foo":    "Zm9v",
		"foob":   "Zm9vYg==",
		"fooba":  "Zm9vYmE=",
		"foobar": "Zm9vYmFy",
	} {
		if got := sixty.Put([]byte(plain)); got != want {
			t.Errorf("Put of %q: %s, want %s", plain, got, want)
		}
		if got, code := sixty.Get(want); code != api.OK || string(got) != plain {
			t.Errorf("Get of %s: %q, code %d", want, got, code)
		}
	}
}

// TestPutOfNone: 7.1, no bytes have no letters, and no signs.
func TestPutOfNone(t *testing.T) {
	for _, b := range [][]byte{nil, {}, text(9, 1)[:0]} {
		if s := sixty.Put(b); s != "" {
			t.Errorf("Put of none: %q", s)
		}
	}
}

// TestPutAtAllLengths: 7.1, about all multiples of three, of noughts, of full bytes, and of others.
func TestPutAtAllLengths(t *testing.T) {
	for n := range 200 {
		checkPut(t, make([]byte, n))
		checkPut(t, bytes.Repeat([]byte{0xff}, n))
		for seed := range uint32(4) {
			checkPut(t, text(n, seed))
		}
	}
}

// TestPutOfMany: 7.1, of long texts, with none, one and two bytes over.
func TestPutOfMany(t *testing.T) {
	for _, n := range []int{api.MaxBody, 3 << 16, 3<<16 + 1, 3<<16 + 2, 1 << 20} {
		checkPut(t, text(n, uint32(n)))
	}
}

// TestPutOfEachByte: 7.1, each byte alone, and each two.
func TestPutOfEachByte(t *testing.T) {
	for i := range 256 {
		checkPut(t, []byte{byte(i)})
		for j := range 256 {
			checkPut(t, []byte{byte(i), byte(j)})
		}
	}
}

// TestEachLetter: 7.1, each number has its letter, at each place of a four.
func TestEachLetter(t *testing.T) {
	for n, c := range []byte(letters) {
		for place := range 4 {
			bits := uint32(n) << (18 - 6*place)
			b := []byte{byte(bits >> 16), byte(bits >> 8), byte(bits)}
			want := []byte("AAAA")
			want[place] = c
			if got := sixty.Put(b); got != string(want) {
				t.Errorf("number %d at %d: %s, want %s", n, place, got, want)
			}
			if got, code := sixty.Get(string(want)); code != api.OK || !bytes.Equal(got, b) {
				t.Errorf("letter %c at %d: %x, want %x, code %d", c, place, got, b, code)
			}
		}
	}
}

// TestEachBit: 7.1, the highest bits first: each bit alone is seen in the letter of its six.
func TestEachBit(t *testing.T) {
	for n := 1; n <= 7; n++ {
		for i := range 8 * n {
			b := make([]byte, n)
			b[i/8] = 128 >> (i % 8)
			want := []byte(sixty.Put(make([]byte, n)))
			want[i/6] = letters[32>>(i%6)]
			if got := sixty.Put(b); got != string(want) {
				t.Errorf("bit %d of %d bytes: %s, want %s", i, n, got, want)
			}
		}
	}
}

// TestPutsSigns: 7.1, as many signs as are wanting to a multiple of four, and none elsewhere.
func TestPutsSigns(t *testing.T) {
	for n := range 100 {
		s := sixty.Put(text(n, 2))
		signs := (3 - n%3) % 3
		if len(s) != (n+2)/3*4 || strings.Count(s, "=") != signs || !strings.HasSuffix(s, strings.Repeat("=", signs)) {
			t.Errorf("%d bytes: %s", n, s)
		}
	}
}
