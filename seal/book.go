package seal

// Bytes stand in the book as texts: those are copies that nobody writes to.

// place is a key and a nonce, under which but one thing should ever be sealed.
type place struct{ key, nonce string }

// content is what is sealed: a text, and what stands beside it.
type content struct{ beside, text string }

// opening is what has to be shown for a text.
type opening struct {
	place
	beside, sealed string
}

// book is what was sealed.
type book struct {
	count int
	// first has the first thing at each place alone: if any two there are unlike, one of them is unlike the first.
	first map[place]content
	texts map[opening]content
}

func newBook() book {
	return book{first: map[place]content{}, texts: map[opening]content{}}
}

// add notes what was sealed; true: something else stands at that place.
func (b *book) add(p place, c content, sealed []byte) bool {
	b.count++
	was, taken := b.first[p]
	if !taken {
		b.first[p] = c
	}
	// None that is unlike is written over here: for real what is sealed has one text alone, and no noise comes twice.
	b.texts[opening{p, c.beside, string(sealed)}] = c
	return taken && was != c
}

// find is what was sealed so; false: nothing was.
func (b *book) find(o opening) (content, bool) {
	c, ok := b.texts[o]
	return c, ok
}
