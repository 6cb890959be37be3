package aes

import (
	"deedbox/api"
	"deedbox/octet"
)

const (
	wordSize   = 4
	keyWords   = api.KeySize / wordSize
	blockWords = Size / wordSize
	allWords   = (Rounds + 1) * blockWords
)

type word [wordSize]byte

// schedule is the words of a key: its own, and those that are made of them.
type schedule [allWords]word

// roundKeys is the keys of all rounds, and that of round 0.
type roundKeys [Rounds + 1][Size]byte

func (t *Tables) spread(key []byte) schedule {
	var w schedule
	for i := range keyWords {
		copy(w[i][:], key[i*wordSize:])
	}
	power := byte(1)
	for i := keyWords; i < allWords; i++ {
		last := w[i-1]
		switch i % keyWords {
		case 0:
			last = t.boxed(turned(last))
			last[0] ^= power
			power = t.twice[power]
		case keyWords / 2:
			last = t.boxed(last)
		}
		copy(w[i][:], octet.Xor(w[i-keyWords][:], last[:]))
	}
	return w
}

func (t *Tables) boxed(w word) word {
	for i, c := range w {
		w[i] = t.box[c]
	}
	return w
}

// turned is a word whose first byte went last.
func turned(w word) word {
	return word{w[1], w[2], w[3], w[0]}
}

func (w schedule) keys() roundKeys {
	var out roundKeys
	for i, x := range w {
		copy(out[i/blockWords][i%blockWords*wordSize:], x[:])
	}
	return out
}
