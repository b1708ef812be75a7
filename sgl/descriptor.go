package sgl

import (
	"capsule/api"
	"capsule/wire"
)

const (
	// wordSize is the number of bytes of each of the two words of a descriptor.
	wordSize       = 8
	descriptorSize = 2 * wordSize
	// typeAt is the lowest bit of the type byte in the second word, and typeUnit what that byte is a multiple of.
	typeAt   = 56
	typeBits = 8
	typeUnit = 16
)

// types are the kinds in the order of their types.
var types = [...]api.SGLKind{api.SGLData, api.SGLBucket, api.SGLSegment, api.SGLLast, api.SGLKeyed}

// Valid reports whether a descriptor is valid.
func Valid(d api.Descriptor) bool {
	switch d.Kind {
	case api.SGLKeyed:
		return fits(d)
	case api.SGLData, api.SGLSegment, api.SGLLast:
		return fits(d) && d.Key == 0
	case api.SGLBucket:
		return fits(d) && d.Key == 0 && d.Addr == 0
	}
	return false
}

// fits reports whether the length of a descriptor fits into its field.
func fits(d api.Descriptor) bool {
	return d.Len >= 0 && d.Len>>lengthBits(d.Kind) == 0
}

// lengthBits returns the width of the length. Between it and the type byte lies the key, or what must be 0, as the key is for every kind without one.
func lengthBits(kind api.SGLKind) int {
	if kind == api.SGLKeyed {
		return 24
	}
	return 32
}

// Encode returns the two words of a descriptor.
func Encode(d api.Descriptor) ([2]uint64, api.Errno) {
	if !Valid(d) {
		return [2]uint64{}, api.ErrArg
	}
	return [2]uint64{d.Addr, uint64(d.Len) | uint64(d.Key)<<lengthBits(d.Kind) | typeByte(d.Kind)<<typeAt}, api.OK
}

// Decode returns the descriptor of two words.
func Decode(w [2]uint64) (d api.Descriptor, e api.Errno) {
	defer func() {
		if failure, ok := recover().(api.Errno); ok {
			d, e = api.Descriptor{}, failure
		}
	}()
	kind := kindOf(must(wire.Field(w[1], typeAt, typeBits)))
	n := lengthBits(kind)
	length, key := must(wire.Field(w[1], 0, n)), must(wire.Field(w[1], n, typeAt-n))
	require(api.ErrType, kind == api.SGLKeyed || key == 0)
	return api.Descriptor{Kind: kind, Addr: w[0], Len: int(length), Key: uint32(key)}, api.OK
}

// typeByte returns the type byte of a kind.
func typeByte(kind api.SGLKind) (b uint64) {
	for number, k := range types {
		if k == kind {
			b = uint64(number) * typeUnit
		}
	}
	return b
}

// kindOf returns the kind with a type byte.
func kindOf(typeByte uint64) api.SGLKind {
	require(api.ErrType, typeByte%typeUnit == 0, typeByte/typeUnit < uint64(len(types)))
	return types[typeByte/typeUnit]
}
