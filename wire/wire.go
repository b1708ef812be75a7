// Package wire reads and writes little-endian fields (layer 1, see shared/doc/01-wire.md).
package wire

import (
	"bytes"
	"strings"

	"capsule/api"
)

// MaxLen is the maximum length of a writer in bytes.
const MaxLen = 1 << 20

// maxSize is the maximum size of a field in bytes.
const maxSize = 8

// Put returns the n bytes of the field with the value v, the least significant byte first.
func Put(v uint64, n int) ([]byte, api.Errno) {
	if e := checkField(v, n); e != api.OK {
		return nil, e
	}
	return appendField(nil, v, n), api.OK
}

// Get returns the value of the field that consists of b.
func Get(b []byte) (uint64, api.Errno) {
	if e := checkSize(len(b)); e != api.OK {
		return 0, e
	}
	var v uint64
	for i, c := range b {
		v |= uint64(c) << (8 * i)
	}
	return v, api.OK
}

// Field returns the bit field of v at low with that width.
func Field(v uint64, low, width int) (uint64, api.Errno) {
	if e := checkBits(low, width); e != api.OK {
		return 0, e
	}
	return v >> low & ones(width), api.OK
}

// Insert returns v with its bit field at low with that width replaced by x.
func Insert(v uint64, low, width int, x uint64) (uint64, api.Errno) {
	if e := checkBits(low, width); e != api.OK {
		return 0, e
	}
	if x > ones(width) {
		return 0, api.ErrRange
	}
	return v&^(ones(width)<<low) | x<<low, api.OK
}

// Pad returns the text s, followed by spaces up to n bytes.
func Pad(s string, n int) ([]byte, api.Errno) {
	if n < 0 || !isText(s) {
		return nil, api.ErrArg
	}
	if len(s) > n || n > MaxLen {
		return nil, api.ErrLong
	}
	return append([]byte(s), bytes.Repeat([]byte{' '}, n-len(s))...), api.OK
}

// Text returns the text of b without the spaces at its end.
func Text(b []byte) (string, api.Errno) {
	s := string(b)
	if !isText(s) {
		return "", api.ErrArg
	}
	return strings.TrimRight(s, " "), api.OK
}

func checkSize(n int) api.Errno {
	if n < 1 || n > maxSize {
		return api.ErrArg
	}
	return api.OK
}

func checkField(v uint64, n int) api.Errno {
	if e := checkSize(n); e != api.OK {
		return e
	}
	if v > ones(8*n) {
		return api.ErrRange
	}
	return api.OK
}

// checkBits compares low with a difference, because the sum of low and width may overflow.
func checkBits(low, width int) api.Errno {
	if width < 1 || low < 0 || low > 64-width {
		return api.ErrArg
	}
	return api.OK
}

// ones returns the greatest number of that many bits, 1 to 64.
func ones(width int) uint64 {
	return ^uint64(0) >> (64 - width)
}

func appendField(b []byte, v uint64, n int) []byte {
	for i := range n {
		b = append(b, byte(v>>(8*i)))
	}
	return b
}

// isText looks at bytes, not at runes: a byte above 7E is no character of a text.
func isText(s string) bool {
	for i := range len(s) {
		if s[i] < 0x20 || s[i] > 0x7E {
			return false
		}
	}
	return true
}
