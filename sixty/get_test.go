package sixty_test

import (
	"bytes"
	"encoding/base64"
	"strings"
	"testing"

	"deedbox/api"
	"deedbox/sixty"
)

// checkCode holds a refusal against its code; nothing stands beside it (R2).
func checkCode(t *testing.T, s string, want api.Code) {
	t.Helper()
	if b, code := sixty.Get(s); code != want || len(b) != 0 {
		t.Errorf("Get of %q: %x, code %d, want %d", s, b, code, want)
	}
}

// checkGet holds Get of a text whose bytes are a multiple of four against the library, that is asked to be strict; that one steps over ends of lines, so that those are refused ahead of it.
func checkGet(t *testing.T, s string) {
	t.Helper()
	want, err := base64.StdEncoding.Strict().DecodeString(s)
	if err != nil || strings.ContainsAny(s, "\r\n") {
		checkCode(t, s, api.ErrForm)
		return
	}
	if got, code := sixty.Get(s); code != api.OK || !bytes.Equal(got, want) {
		t.Errorf("Get of %q: %x, want %x, code %d", s, got, want, code)
	}
}

// TestGetOfNone: 7.2, a text without letters has no bytes.
func TestGetOfNone(t *testing.T) {
	if b, code := sixty.Get(""); code != api.OK || len(b) != 0 {
		t.Errorf("%x, code %d", b, code)
	}
}

// TestGetShort: 7.2, a text has not a multiple of four bytes, whatever they are, so that ErrShort goes ahead of ErrForm.
func TestGetShort(t *testing.T) {
	whole := sixty.Put(text(60, 1))
	for n := range len(whole) + 1 {
		if n%4 != 0 {
			checkCode(t, whole[:n], api.ErrShort)
			checkCode(t, strings.Repeat("=", n), api.ErrShort)
			checkCode(t, strings.Repeat("A", n), api.ErrShort)
			checkCode(t, strings.Repeat("*", n), api.ErrShort)
			checkCode(t, strings.Repeat("\xff", n), api.ErrShort)
		}
	}
	for _, s := range []string{"Zg=", "Zg", "Z", "Zm8", "Zm9vYg=", "Zm9vYg===", "Zm9v=", "Zm9v==", "Zm9v===", "Zm9v\n", "Zm9v\r\n", " Zm9v"} {
		checkCode(t, s, api.ErrShort)
	}
}

// TestGetCountsBytes: 7.2, it is a text's bytes that are counted, not its letters.
func TestGetCountsBytes(t *testing.T) {
	for _, s := range []string{"é", "ééé", "Zmé9", "Zm9é", "é===", "€", "€ééé", "Zm9v€"} {
		checkCode(t, s, api.ErrShort)
	}
	for _, s := range []string{"éé", "éAA", "AéA", "AAé", "é==", "Aé=", "A€", "€=", "😀", "éééé", "€€€€", "Zm9vAAé", "Zm9vé==", "Zm9v😀"} {
		checkCode(t, s, api.ErrForm)
	}
}

// TestGetOfEachByte: 7.2, at each place of the first and of the last four, each byte is a letter, or refused.
func TestGetOfEachByte(t *testing.T) {
	for _, whole := range []string{"AAAA", "AAA=", "AA==", "Zm9vYmFy", "Zm9vYmE=", "Zm9vYg==", "Zm9vYmFyZm9v"} {
		for at := range whole {
			for c := range 256 {
				b := []byte(whole)
				b[at] = byte(c)
				checkGet(t, string(b))
			}
		}
	}
}

// TestGetOfStrangers: 7.2, letters of other alphabets, those beside the right ones, spaces and ends of lines, and runes whose lowest bits are a letter's.
func TestGetOfStrangers(t *testing.T) {
	for _, c := range []string{"-", "_", ",", ".", "*", "@", "[", "`", "{", ":", " ", "\t", "\n", "\r", "\x00", "\x7f", "\x80", "\xc1", "\xff"} {
		for at := range 4 {
			checkCode(t, "AAA"[:at]+c+"AAA"[at:], api.ErrForm)
			checkCode(t, "Zm9v"+"AAA"[:at]+c+"AAA"[at:], api.ErrForm)
		}
		checkCode(t, strings.Repeat(c, 4), api.ErrForm)
	}
	checkCode(t, "Zm9v\r\n\r\n", api.ErrForm)
	checkCode(t, "Zm\n9v\n\n\n", api.ErrForm)
	for _, c := range letters {
		for _, by := range []rune{1 << 8, 1 << 9, 1 << 10, 1 << 16, 1 << 20} {
			s := string(c + by)
			checkCode(t, s+"AAAA"[len(s)%4:], api.ErrForm)
			checkCode(t, "AAAA"[len(s)%4:]+s, api.ErrForm)
		}
	}
}

// TestGetOfSigns: 7.2, signs in each set of places of two fours.
func TestGetOfSigns(t *testing.T) {
	for _, whole := range []string{"AAAAAAAA", "Zm9vZm9v", "/////w==", "++++++A="} {
		for set := range 1 << 8 {
			b := []byte(whole)
			for i := range b {
				if set>>i&1 == 1 {
					b[i] = '='
				}
			}
			checkGet(t, string(b))
		}
	}
	for _, s := range []string{"====", "A===", "=AAA", "A=AA", "AA=A", "=A==", "A=A=", "Zg==Zg==", "Zm8=Zm8=", "Zm9vZg==AAAA", "AAAA====", "AAAAA===", "========"} {
		checkCode(t, s, api.ErrForm)
	}
}

// TestGetOfBitsBehind: 7.2, of all ends with one sign, or two, those alone whose bits behind the last byte are noughts.
func TestGetOfBitsBehind(t *testing.T) {
	for i := range letters {
		for j := range letters {
			two := string(letters[i]) + string(letters[j])
			if j%16 != 0 {
				checkCode(t, two+"==", api.ErrForm)
				checkCode(t, "Zm9v"+two+"==", api.ErrForm)
			} else if b, code := sixty.Get(two + "=="); code != api.OK || !bytes.Equal(b, []byte{byte(i<<2 | j>>4)}) {
				t.Errorf("%s==: %x, code %d", two, b, code)
			}
			for k := range letters {
				three := two + string(letters[k])
				if k%4 != 0 {
					checkCode(t, three+"=", api.ErrForm)
				} else if b, code := sixty.Get(three + "="); code != api.OK || !bytes.Equal(b, []byte{byte(i<<2 | j>>4), byte(j<<4 | k>>2)}) {
					t.Errorf("%s=: %x, code %d", three, b, code)
				}
			}
		}
	}
}

// TestGetOfMany: 7.2, a long text, and the same with one letter that is none, first, in the midst, and last.
func TestGetOfMany(t *testing.T) {
	for _, n := range []int{3 << 16, 3<<16 + 1, 3<<16 + 2} {
		b := text(n, 3)
		s := reckoned(b)
		if got, code := sixty.Get(s); code != api.OK || !bytes.Equal(got, b) {
			t.Errorf("%d bytes: %d, code %d", n, len(got), code)
		}
		for _, at := range []int{0, 1, len(s) / 2, len(s) - 5, len(s) - 3} {
			wrong := []byte(s)
			wrong[at] = '!'
			if got, code := sixty.Get(string(wrong)); code != api.ErrForm || len(got) != 0 {
				t.Errorf("%d bytes, wrong at %d: %d, code %d", n, at, len(got), code)
			}
		}
		if got, code := sixty.Get(s[1:]); code != api.ErrShort || len(got) != 0 {
			t.Errorf("%d bytes, without the first letter: %d, code %d", n, len(got), code)
		}
	}
}
