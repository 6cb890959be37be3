package octet

import (
	"deedbox/api"
)

// Reader reads bytes from the first one on; once something is wrong it reads noughts.
type Reader struct {
	rest []byte
	code api.Code
}

// Read is a reader of bytes. It has a copy of them: the caller may write to its own while the reader reads.
func Read(b []byte) *Reader { return &Reader{rest: Join(b)} }

// Number reads a number of so many bytes.
func (r *Reader) Number(size int) uint64 { return Get(r.Bytes(size)) }

// Bytes reads so many bytes.
func (r *Reader) Bytes(n int) []byte {
	if r.code != api.OK {
		return nil
	}
	if n < 0 || n > len(r.rest) {
		r.Fail(api.ErrShort)
		return nil
	}
	// A copy again: whoever writes or appends to it must not change what is read next.
	b := Join(r.rest[:n])
	r.rest = r.rest[n:]
	return b
}

// Text reads bytes with their length, of so many bytes, ahead; longer ones than a greatest one are wrong.
func (r *Reader) Text(size, most int) []byte {
	n := r.Number(size)
	// Held against each other unsigned: a length may be greater than any int.
	if n > uint64(max(most, 0)) {
		r.Fail(api.ErrForm)
		return nil
	}
	return r.Bytes(int(n))
}

// Fail keeps what is wrong, if nothing was.
func (r *Reader) Fail(c api.Code) {
	if r.code == api.OK {
		r.code = c
	}
}

// Left is how many bytes were not read.
func (r *Reader) Left() int { return len(r.rest) }

// Code is what was wrong first.
func (r *Reader) Code() api.Code { return r.code }

// End is what was wrong first; that bytes are left is wrong, too.
func (r *Reader) End() api.Code {
	if r.code == api.OK && len(r.rest) > 0 {
		return api.ErrForm
	}
	return r.code
}
