package wire

import (
	"bytes"

	"capsule/api"
)

// Reader reads bytes from a position. A nil Reader and a zero Reader have no bytes.
type Reader struct{ cursor }

// cursor is the state of a reader. The bytes of data are never changed, so copies of a cursor may share them.
type cursor struct {
	data []byte
	at   int
}

// NewReader returns a reader of a copy of b.
func NewReader(b []byte) *Reader {
	return &Reader{cursor{data: bytes.Clone(b)}}
}

// Next reads a field of n bytes.
func (r *Reader) Next(n int) (uint64, api.Errno) {
	return r.orEmpty().field(n)
}

// All reads fields of these sizes, or none of them.
func (r *Reader) All(sizes ...int) ([]uint64, api.Errno) {
	r = r.orEmpty()
	ahead := r.cursor
	l, e := readEach(sizes, func(n int) (uint64, api.Errno) { return ahead.field(n) })
	if e != api.OK {
		return nil, e
	}
	r.cursor = ahead
	return l, api.OK
}

// Take reads n bytes.
func (r *Reader) Take(n int) ([]byte, api.Errno) {
	b, e := r.orEmpty().advance(n)
	return bytes.Clone(b), e
}

// Zeros reads n bytes that must be 0.
func (r *Reader) Zeros(n int) api.Errno {
	r = r.orEmpty()
	ahead := r.cursor
	b, e := ahead.advance(n)
	if e != api.OK {
		return e
	}
	for _, c := range b {
		if c != 0 {
			return api.ErrFormat
		}
	}
	r.cursor = ahead
	return api.OK
}

// Skip advances the position by n.
func (r *Reader) Skip(n int) api.Errno {
	_, e := r.orEmpty().advance(n)
	return e
}

// Left returns the number of bytes from the position on.
func (r *Reader) Left() int {
	return r.orEmpty().left()
}

// At returns the position.
func (r *Reader) At() int {
	return r.orEmpty().at
}

// orEmpty replaces a nil reader, whose promoted methods cannot be called.
func (r *Reader) orEmpty() *Reader {
	if r == nil {
		return &Reader{}
	}
	return r
}

func (c *cursor) left() int {
	return len(c.data) - c.at
}

// advance reads n bytes; the result shares the memory of the cursor.
func (c *cursor) advance(n int) ([]byte, api.Errno) {
	if n < 0 {
		return nil, api.ErrArg
	}
	if n > c.left() {
		return nil, api.ErrShort
	}
	b := c.data[c.at : c.at+n]
	c.at += n
	return b, api.OK
}

// field checks the size first, so that a wrong size is reported before a lack of bytes.
func (c *cursor) field(n int) (uint64, api.Errno) {
	if e := checkSize(n); e != api.OK {
		return 0, e
	}
	b, e := c.advance(n)
	if e != api.OK {
		return 0, e
	}
	return Get(b)
}

// readEach reads a value for each item; with an error it returns no values.
func readEach[S, T any](items []S, read func(S) (T, api.Errno)) ([]T, api.Errno) {
	var l []T
	for _, item := range items {
		v, e := read(item)
		if e != api.OK {
			return nil, e
		}
		l = append(l, v)
	}
	return l, api.OK
}
