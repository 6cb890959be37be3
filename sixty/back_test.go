package sixty_test

import (
	"bytes"
	"testing"

	"deedbox/api"
	"deedbox/sixty"
)

// scribble writes over an answer, and over what lies behind its length.
func scribble(b []byte) {
	b = b[:cap(b)]
	for i := range b {
		b[i] ^= 0xee
	}
}

// TestThereAndBack: 7.3, bytes of all lengths come back as they were.
func TestThereAndBack(t *testing.T) {
	for n := range 400 {
		for seed := range uint32(8) {
			want := text(n, seed)
			if got, code := sixty.Get(sixty.Put(want)); code != api.OK || !bytes.Equal(got, want) {
				t.Errorf("%x: %x, code %d", want, got, code)
			}
		}
	}
}

// TestEachTextIsOne: 7.3, unlike rows of up to two bytes have unlike texts, and come back.
func TestEachTextIsOne(t *testing.T) {
	seen := map[string]int{sixty.Put(nil): 1}
	rows := 1
	note := func(b []byte) {
		s := sixty.Put(b)
		seen[s]++
		rows++
		if got, code := sixty.Get(s); code != api.OK || !bytes.Equal(got, b) {
			t.Errorf("%x: %x, code %d", b, got, code)
		}
	}
	for i := range 256 {
		note([]byte{byte(i)})
		for j := range 256 {
			note([]byte{byte(i), byte(j)})
		}
	}
	if len(seen) != rows {
		t.Errorf("%d texts of %d rows", len(seen), rows)
	}
}

// TestBackAndThere: 7.3, what Get takes is what Put writes: a text of letters, signs and strangers, as they come, is taken just if it comes back.
func TestBackAndThere(t *testing.T) {
	const some = letters + "==-_ \n\x80"
	taken, refused := 0, 0
	for seed := range uint32(40000) {
		s := text(4+4*int(seed%3), seed)
		for i, c := range s {
			s[i] = some[int(c)%len(some)]
		}
		if seed%4 > 1 {
			copy(s[len(s)-int(seed%4)+1:], "==")
		}
		got, code := sixty.Get(string(s))
		switch {
		case code == api.OK && sixty.Put(got) == string(s):
			taken++
		case code == api.ErrForm && len(got) == 0:
			refused++
		default:
			t.Errorf("%q: %x, code %d", s, got, code)
		}
		checkGet(t, string(s))
	}
	if taken < 1000 || refused < 1000 {
		t.Errorf("%d taken, %d refused", taken, refused)
	}
}

// TestHandedInStays: R3, Put neither changes what is handed in, nor reads or changes what lies behind it.
func TestHandedInStays(t *testing.T) {
	for n := range 30 {
		for behind := range 9 {
			whole := text(n+behind, 4)
			was := bytes.Clone(whole)
			if got, want := sixty.Put(whole[:n]), reckoned(was[:n]); got != want {
				t.Errorf("%d bytes with %d behind: %s, want %s", n, behind, got, want)
			}
			if !bytes.Equal(whole, was) {
				t.Errorf("%d bytes with %d behind: changed: %x, was %x", n, behind, whole, was)
			}
		}
	}
}

// TestNothingIsKept: R3, what was handed in may be written over: the answer stays.
func TestNothingIsKept(t *testing.T) {
	for n := range 30 {
		b := text(n, 5)
		want := reckoned(b)
		got := sixty.Put(b)
		scribble(b)
		if got != want {
			t.Errorf("%d bytes: %s, want %s", n, got, want)
		}
	}
}

// TestAnswersAreNew: R3, an answer that is written over changes neither another one, nor the text.
func TestAnswersAreNew(t *testing.T) {
	for n := range 30 {
		want := text(n, 6)
		s := sixty.Put(want)
		one, _ := sixty.Get(s)
		other, _ := sixty.Get(s)
		scribble(one)
		again, code := sixty.Get(s)
		if code != api.OK || !bytes.Equal(other, want) || !bytes.Equal(again, want) || s != reckoned(want) {
			t.Errorf("%d bytes: %x and %x, want %x, code %d", n, other, again, want, code)
		}
	}
}

// TestSameAgain: P8, the answers hang on the arguments alone, whatever was asked before.
func TestSameAgain(t *testing.T) {
	for n := range 30 {
		b := text(n, 7)
		first := sixty.Put(b)
		sixty.Put(text(n+1, 8))
		sixty.Get("Zm9vYh==")
		sixty.Get("Zm9")
		if again := sixty.Put(b); again != first {
			t.Errorf("%d bytes: %s, then %s", n, first, again)
		}
		if got, code := sixty.Get(first); code != api.OK || !bytes.Equal(got, b) {
			t.Errorf("%d bytes: %x, code %d", n, got, code)
		}
	}
}
