package octets

import (
	"bytes"

	"latchkey/api"
)

// Reader reads bytes, one behind the other, up to the first read that is refused.
type Reader struct {
	rest []byte // what isn't read
	err  api.Errno
}

// Read hands out a Reader of the bytes that b has now.
func Read(b []byte) *Reader {
	return &Reader{rest: bytes.Clone(b)}
}

// Byte reads the next byte.
func (r *Reader) Byte() byte {
	return read(r, firstByte)
}

// Uint reads a number by its short form.
func (r *Reader) Uint() uint64 {
	return read(r, firstShort)
}

// Int reads a whole number by the short form of its turned form.
func (r *Reader) Int() int64 {
	return read(r, firstTurned)
}

// Real reads a real number by its key.
func (r *Reader) Real() float32 {
	return read(r, firstReal)
}

// Text reads a text of at most so many bytes.
func (r *Reader) Text(most int) string {
	return read(r, func(b []byte) (string, int, api.Errno) {
		return firstText(b, most)
	})
}

// Raw reads the next n bytes.
func (r *Reader) Raw(n int) []byte {
	return read(r, func(b []byte) ([]byte, int, api.Errno) {
		return firstRaw(b, n)
	})
}

// Left says how many bytes aren't read.
func (r *Reader) Left() int {
	if r == nil {
		return 0
	}
	return len(r.rest)
}

// Err is why the first read that was refused was.
func (r *Reader) Err() api.Errno {
	if r == nil {
		return api.ErrNil
	}
	return r.err
}

// End is OK where all was read and nothing was refused.
func (r *Reader) End() api.Errno {
	if e := r.Err(); e != api.OK {
		return e
	}
	if r.Left() > 0 {
		return api.ErrMore
	}
	return api.OK
}

// read is what all reads have in common: behind an error nothing is read, and what is refused is neither read nor answered.
func read[T any](r *Reader, first func(b []byte) (T, int, api.Errno)) T {
	var x T
	if r.Err() != api.OK {
		return x
	}
	x, size, e := first(r.rest)
	r.rest = r.rest[size:]
	r.err = e
	return x
}
