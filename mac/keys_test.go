package mac_test

import (
	"bytes"
	"crypto/hkdf"
	"crypto/sha256"
	"fmt"
	"math"
	"testing"

	"deedbox/mac"
	"deedbox/sha"
)

// knownExpand is what the library answers for Expand.
func knownExpand(t *testing.T, key []byte, n int, info string) []byte {
	t.Helper()
	b, err := hkdf.Expand(sha256.New, key, info, n)
	if err != nil {
		t.Fatal(err)
	}
	return b
}

// knownDerive is what the library answers for Derive.
func knownDerive(t *testing.T, text, salt []byte, n int, info string) []byte {
	t.Helper()
	b, err := hkdf.Key(sha256.New, text, salt, info, n)
	if err != nil {
		t.Fatal(err)
	}
	return b
}

// row is bytes one above the other.
func row(from, n int) []byte {
	b := make([]byte, n)
	for i := range b {
		b[i] = byte(from + i)
	}
	return b
}

// scribble writes over an answer, and over what lies behind its length.
func scribble(b []byte) {
	b = b[:cap(b)]
	for i := range b {
		b[i] = 0xee
	}
}

// TestMost: 3.2, the number that the chapter names.
func TestMost(t *testing.T) {
	if mac.Most != 8160 {
		t.Errorf("%d", mac.Most)
	}
}

// TestKnownKeys: 3.2 and 3.3, what RFC 5869 gives for this sum, the keys in between too.
func TestKnownKeys(t *testing.T) {
	for i, c := range []struct {
		text, salt, info []byte
		key, want        string
	}{
		{bytes.Repeat([]byte{0x0b}, 22), row(0, 13), row(0xf0, 10),
			"077709362c2e32df0ddc3f0dc47bba6390b6c73bb50f9c3122ec844ad7c2b3e5",
			"3cb25f25faacd57a90434f64d0362f2a2d2d0a90cf1a5a4c5db02d56ecc4c5bf34007208d5b887185865"},
		{row(0, 80), row(0x60, 80), row(0xb0, 80),
			"06a6b88c5853361a06104c9ceb35b45cef760014904671014a193f40c15fc244",
			"b11e398dc80327a1c8e7f78c596a49344f012eda2d4efad8a050cc4c19afa97c59045a99cac7827271cb41c65e590e09da3275600c2f09b8367793a9aca3db71cc30c58179ec3e87c14c01d5c1f3434f1d87"},
		{bytes.Repeat([]byte{0x0b}, 22), nil, nil,
			"19ef24a32c717b167f33a91d6f648bdf96596776afdb6377ac434c1c293ccb04",
			"8da4e775a563c18f715f802a063c5a31b8a11f5c5ee1879ec3454e5f3c738d2d9d201395faa4b61a96c8"},
	} {
		key, want := unhex(t, c.key), unhex(t, c.want)
		if got := mac.Extract(c.salt, c.text); !bytes.Equal(got, key) {
			t.Errorf("%d: Extract: %x, want %x", i, got, key)
		}
		if got := mac.Expand(key, len(want), c.info); !bytes.Equal(got, want) {
			t.Errorf("%d: Expand: %x, want %x", i, got, want)
		}
		if got := mac.Derive(c.text, c.salt, len(want), c.info); !bytes.Equal(got, want) {
			t.Errorf("%d: Derive: %x, want %x", i, got, want)
		}
	}
}

// TestExpandNone: 3.2, below 0, or above Most, also where nothing is handed in; so Derive.
func TestExpandNone(t *testing.T) {
	for _, n := range []int{-1, -2, -32, -mac.Most, math.MinInt32, math.MinInt, mac.Most + 1, mac.Most + 2, 256 * sha.Size, 1 << 16, math.MaxInt32, math.MaxInt} {
		if got := mac.Expand(text(32), n, []byte("info")); got != nil {
			t.Errorf("Expand of %d: %d bytes", n, len(got))
		}
		if got := mac.Expand(nil, n); got != nil {
			t.Errorf("Expand of nothing, %d: %d bytes", n, len(got))
		}
		if got := mac.Derive([]byte("text"), []byte("salt"), n, []byte("info")); got != nil {
			t.Errorf("Derive of %d: %d bytes", n, len(got))
		}
	}
	if got := mac.Expand(text(32), 0, []byte("info")); len(got) != 0 {
		t.Errorf("Expand of 0: %x", got)
	}
	if got := mac.Derive([]byte("text"), nil, 0); len(got) != 0 {
		t.Errorf("Derive of 0: %x", got)
	}
}

// TestExpandAboutEnds: 3.2 and 3.4, at all n about the ends of sums: the first n bytes of all, up to the last one of the last sum.
func TestExpandAboutEnds(t *testing.T) {
	key := text(32)
	all := knownExpand(t, key, mac.Most, "info")
	if len(all) != mac.Most {
		t.Fatal(len(all))
	}
	for end := 0; end <= mac.Most; end += sha.Size {
		for n := max(end-1, 0); n <= min(end+1, mac.Most); n++ {
			if got := mac.Expand(key, n, []byte("info")); !bytes.Equal(got, all[:n]) {
				t.Errorf("of %d: %d bytes, or other ones", n, len(got))
			}
		}
	}
}

// TestExpandAllSmall: 3.2, every n of the first few sums, of keys and infos of several lengths.
func TestExpandAllSmall(t *testing.T) {
	for _, size := range []int{0, 1, 31, 32, 33, 63, 64, 65, 200} {
		for _, info := range []string{"", "a", string(text(64)), string(text(300))} {
			key := text(size)
			for n := range 3*sha.Size + 3 {
				if got, want := mac.Expand(key, n, []byte(info)), knownExpand(t, key, n, info); !bytes.Equal(got, want) {
					t.Fatalf("%d bytes of a key of %d, info of %d: %x, want %x", n, size, len(info), got, want)
				}
			}
		}
	}
}

// TestExpandStepByStep: 3.2 as its words say it: each sum is Of the one ahead of it, all of info, and its number.
func TestExpandStepByStep(t *testing.T) {
	key, info := []byte("key"), []byte("info")
	var last, want []byte
	for i := 1; i <= 255; i++ {
		sum := known(key, last, info, []byte{byte(i)})
		last = sum[:]
		want = append(want, last...)
	}
	if got := mac.Expand(key, mac.Most, info); !bytes.Equal(got, want) {
		t.Errorf("%x, want %x", got, want)
	}
}

// TestFewerAreTheFirst: 3.4, of Expand and of Derive.
func TestFewerAreTheFirst(t *testing.T) {
	more := mac.Expand([]byte("key"), 300, []byte("info"))
	derived := mac.Derive([]byte("text"), []byte("salt"), 300, []byte("info"))
	if len(more) != 300 || len(derived) != 300 {
		t.Fatal(len(more), len(derived))
	}
	for n := range 300 {
		if got := mac.Expand([]byte("key"), n, []byte("info")); len(got) != n || !bytes.HasPrefix(more, got) {
			t.Errorf("Expand: %d bytes are not the first ones of more", n)
		}
		if got := mac.Derive([]byte("text"), []byte("salt"), n, []byte("info")); len(got) != n || !bytes.HasPrefix(derived, got) {
			t.Errorf("Derive: %d bytes are not the first ones of more", n)
		}
	}
}

// TestInfos: 3.2 and 3.3, infos are as their bytes one behind the other, however many there are; none is as one without bytes.
func TestInfos(t *testing.T) {
	key := text(32)
	b := text(100)
	want := knownExpand(t, key, 100, string(b))
	wantDerived := knownDerive(t, key, []byte("salt"), 100, string(b))
	for i := range len(b) + 1 {
		if got := mac.Expand(key, 100, b[:i], nil, b[i:]); !bytes.Equal(got, want) {
			t.Errorf("Expand, parted at %d: %x, want %x", i, got, want)
		}
		if got := mac.Derive(key, []byte("salt"), 100, b[:i], nil, b[i:]); !bytes.Equal(got, wantDerived) {
			t.Errorf("Derive, parted at %d: %x, want %x", i, got, wantDerived)
		}
	}
	want = knownExpand(t, key, 100, "")
	for _, info := range [][][]byte{nil, {}, {nil}, {{}, nil}} {
		if got := mac.Expand(key, 100, info...); !bytes.Equal(got, want) {
			t.Errorf("info %v: %x, want %x", info, got, want)
		}
	}
	if got, want := mac.Expand(key, 40, []byte("b"), []byte("a")), knownExpand(t, key, 40, "ba"); !bytes.Equal(got, want) {
		t.Errorf("the order of infos: %x, want %x", got, want)
	}
}

// TestExtract: 3.3, Of salt of text, and not the other way about.
func TestExtract(t *testing.T) {
	for _, saltSize := range []int{0, 1, 31, 32, 33, 63, 64, 65, 200} {
		for _, textSize := range []int{0, 1, 32, 55, 56, 64, 65, 300} {
			salt, b := text(saltSize), text(textSize)
			want := known(salt, b)
			if got := mac.Extract(salt, b); !bytes.Equal(got, want[:]) {
				t.Errorf("salt of %d, text of %d: %x, want %x", saltSize, textSize, got, want)
			}
		}
	}
}

// TestSaltOfNoughts: 3.3 and 3.4, no salt is one of noughts, up to a block.
func TestSaltOfNoughts(t *testing.T) {
	want := mac.Extract(nil, []byte("text"))
	for _, n := range []int{0, 1, sha.Size, sha.Block} {
		if got := mac.Extract(make([]byte, n), []byte("text")); !bytes.Equal(got, want) {
			t.Errorf("%d noughts: %x, want %x", n, got, want)
		}
	}
	if got := mac.Extract(make([]byte, sha.Block+1), []byte("text")); bytes.Equal(got, want) {
		t.Error("noughts past a block are of no matter")
	}
}

// TestDerive: 3.3, Expand of what Extract makes, the text first.
func TestDerive(t *testing.T) {
	for _, size := range []int{0, 1, 32, 64, 65, 200} {
		for _, n := range []int{0, 1, 31, 32, 33, 64, 65, 255, 256, 1000, mac.Most - 1, mac.Most} {
			b, salt := text(100), text(size)
			got := mac.Derive(b, salt, n, []byte("info"))
			if want := knownDerive(t, b, salt, n, "info"); !bytes.Equal(got, want) {
				t.Errorf("salt of %d, %d bytes: %x, want %x", size, n, got, want)
			}
			if want := mac.Expand(mac.Extract(salt, b), n, []byte("info")); !bytes.Equal(got, want) {
				t.Errorf("salt of %d, %d bytes: not Expand of Extract", size, n)
			}
		}
	}
}

// TestUnlikeKeys: what is handed in counts, all of it: no two of these are the same key.
func TestUnlikeKeys(t *testing.T) {
	seen := map[string]string{}
	for _, b := range []string{"a", "b"} {
		for _, salt := range []string{"", "a", "b"} {
			for _, info := range []string{"", "a", "b"} {
				key := string(mac.Derive([]byte(b), []byte(salt), 32, []byte(info)))
				at := fmt.Sprintf("text %q, salt %q, info %q", b, salt, info)
				if other, twice := seen[key]; twice {
					t.Errorf("%s and %s: the same key", at, other)
				}
				seen[key] = at
			}
		}
	}
}

// TestKeysStay: R3, nothing that is handed in is changed or kept, and what lies behind it does not count.
func TestKeysStay(t *testing.T) {
	b, stayB := guarded(t, string(text(70)))
	salt, staySalt := guarded(t, string(text(10)))
	one, stayOne := guarded(t, "one")
	two, stayTwo := guarded(t, "two")
	info, stayInfo := guardedList(t, one, two)
	for _, c := range []struct {
		what string
		call func() []byte
		want []byte
	}{
		{"Extract", func() []byte { return mac.Extract(salt, b) }, mac.Extract(text(10), text(70))},
		{"Expand", func() []byte { return mac.Expand(b, 100, info...) }, knownExpand(t, text(70), 100, "onetwo")},
		{"Derive", func() []byte { return mac.Derive(b, salt, 100, info...) }, knownDerive(t, text(70), text(10), 100, "onetwo")},
	} {
		for range 2 {
			got := c.call()
			if !bytes.Equal(got, c.want) {
				t.Errorf("%s: %x, want %x", c.what, got, c.want)
			}
			scribble(got)
		}
		for _, stay := range []func(){stayB, staySalt, stayOne, stayTwo, stayInfo} {
			stay()
		}
	}
}

// TestNoInfosStay: R3, a list of infos without elements has memory behind it, too.
func TestNoInfosStay(t *testing.T) {
	info, stay := guardedList(t)
	if got, want := mac.Expand([]byte("key"), 100, info...), knownExpand(t, []byte("key"), 100, ""); !bytes.Equal(got, want) {
		t.Errorf("%x, want %x", got, want)
	}
	stay()
}

// TestNoKeyBehindTheAnswer: bytes of a key that were not asked for do not stand behind those that were.
func TestNoKeyBehindTheAnswer(t *testing.T) {
	all := mac.Expand([]byte("key"), mac.Most, []byte("info"))
	for _, n := range []int{0, 1, 16, 31, 32, 33, 42, 63, 100} {
		got := mac.Expand([]byte("key"), n, []byte("info"))
		for i, x := range got[:cap(got)] {
			if i >= n && x != 0 && x == all[i] {
				t.Fatalf("of %d: byte %d stands behind", n, i)
			}
		}
	}
}
