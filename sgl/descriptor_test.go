package sgl_test

import (
	"math"
	"math/rand/v2"
	"testing"

	"capsule/api"
	"capsule/sgl"
)

// P15.1: the chapter's examples.
func TestDescriptorExamples(t *testing.T) {
	encodes(t, block(4096, 512), 4096, 512)
	if w, e := sgl.Encode(api.Descriptor{Kind: api.SGLBucket, Addr: 1, Len: 5}); w != [2]uint64{} || e != api.ErrArg {
		t.Error(w, e)
	}
	if d, e := sgl.Decode([2]uint64{0, 1<<60 + 7}); d != bucket(7) || e != api.OK {
		t.Error(d, e)
	}
	encodes(t, keyed(1, 2, 3), 1, 2+3*1<<24+1<<62)
	if d, e := sgl.Decode([2]uint64{0, 1 << 56}); d != (api.Descriptor{}) || e != api.ErrType {
		t.Error(d, e)
	}
}

// encodes fails the test unless a descriptor is valid and is encoded as these words, and they are decoded as it.
func encodes(t *testing.T, d api.Descriptor, first, second uint64) {
	t.Helper()
	if !sgl.Valid(d) {
		t.Errorf("%v is not valid", d)
	}
	words := [2]uint64{first, second}
	if w, e := sgl.Encode(d); w != words || e != api.OK {
		t.Errorf("Encode(%v): %x %v, not %x", d, w, e, words)
	}
	if got, e := sgl.Decode(words); got != d || e != api.OK {
		t.Errorf("Decode(%x): %v %v, not %v", words, got, e, d)
	}
}

// invalid fails the test unless a descriptor is not valid and is not encoded.
func invalid(t *testing.T, d api.Descriptor) {
	t.Helper()
	if sgl.Valid(d) {
		t.Errorf("%v is valid", d)
	}
	if w, e := sgl.Encode(d); w != [2]uint64{} || e != api.ErrArg {
		t.Errorf("Encode(%v): %x %v", d, w, e)
	}
}

// P15.1: each kind with all its fields in use.
func TestEncodeKinds(t *testing.T) {
	const addr = 0xFEDCBA9876543210
	encodes(t, block(addr, 0x89ABCDEF), addr, 0x00000000_89ABCDEF)
	encodes(t, bucket(0x89ABCDEF), 0, 0x10000000_89ABCDEF)
	encodes(t, api.Descriptor{Kind: api.SGLSegment, Addr: addr, Len: 0x89ABCDEF}, addr, 0x20000000_89ABCDEF)
	encodes(t, api.Descriptor{Kind: api.SGLLast, Addr: addr, Len: 0x89ABCDEF}, addr, 0x30000000_89ABCDEF)
	encodes(t, keyed(addr, 0xABCDEF, 0x12345678), addr, 0x40123456_78ABCDEF)
	encodes(t, block(0, 0), 0, 0)
	encodes(t, keyed(math.MaxUint64, 1<<24-1, math.MaxUint32), math.MaxUint64, 0x40FFFFFF_FFFFFFFF)
	encodes(t, block(math.MaxUint64, 1<<32-1), math.MaxUint64, 0x00000000_FFFFFFFF)
}

// lengths, addresses and keys are values at and beyond the limits.
func lengths() []int {
	l := []int{math.MinInt, math.MinInt + 1, -1 << 32, -1<<32 + 1, math.MinInt32, -1 << 24, -16, -1, 0, 1, 15, 16}
	for _, bits := range []int{8, 16, 23, 24, 25, 31, 32, 33, 40, 56, 62} {
		l = append(l, 1<<bits-1, 1<<bits, 1<<bits+1)
	}
	return append(l, math.MaxInt-1, math.MaxInt)
}

func addresses() []uint64 {
	return []uint64{0, 1, 15, 4096, 1 << 32, 1 << 63, math.MaxUint64 - 1, math.MaxUint64}
}

func keys() []uint32 {
	return []uint32{0, 1, 255, 256, 1 << 24, 1 << 31, math.MaxUint32}
}

// kinds are those of the table, and values below and above them.
func kinds() []api.SGLKind {
	l := []api.SGLKind{math.MinInt, math.MinInt + 1, math.MinInt32, -256, -16, -5, -2, -1}
	for kind := range api.SGLKind(18) {
		l = append(l, kind)
	}
	return append(l, 32, 48, 64, 255, 256, 257, 260, 1<<32, 1<<32+1, 1<<32+5, math.MaxInt32, math.MaxInt-1, math.MaxInt)
}

// P15.1, P15.5: every combination of kinds, addresses, lengths and keys at and beyond the limits: Valid and Encode are as the model, and Decode is the inverse.
func TestEncodeModel(t *testing.T) {
	valid := 0
	for _, kind := range kinds() {
		for _, addr := range addresses() {
			for _, n := range lengths() {
				for _, key := range keys() {
					d := api.Descriptor{Kind: kind, Addr: addr, Len: n, Key: key}
					if !plainValid(d) {
						invalid(t, d)
						continue
					}
					valid++
					w := itemOf(d).words()
					encodes(t, d, w[0], w[1])
				}
			}
		}
	}
	if valid < 1000 {
		t.Errorf("only %d valid descriptors", valid)
	}
}

// P15.1: each limit of each kind by itself.
func TestValidLimits(t *testing.T) {
	for _, kind := range []api.SGLKind{api.SGLData, api.SGLBucket, api.SGLSegment, api.SGLLast, api.SGLKeyed} {
		limit := 1 << 32
		if kind == api.SGLKeyed {
			limit = 1 << 24
		}
		for _, n := range []int{0, 1, limit / 2, limit - 1} {
			if !sgl.Valid(api.Descriptor{Kind: kind, Len: n}) {
				t.Errorf("kind %d, length %d: not valid", kind, n)
			}
		}
		for _, n := range []int{-1, -limit, -limit + 1, math.MinInt, limit, limit + 1, 2 * limit, math.MaxInt} {
			invalid(t, api.Descriptor{Kind: kind, Len: n})
		}
		for bit := range 64 {
			d := api.Descriptor{Kind: kind, Addr: 1 << bit}
			if sgl.Valid(d) != (kind != api.SGLBucket) {
				t.Errorf("%v: valid: %t", d, sgl.Valid(d))
			}
			d = api.Descriptor{Kind: kind, Key: 1 << (bit % 32)}
			if sgl.Valid(d) != (kind == api.SGLKeyed) {
				t.Errorf("%v: valid: %t", d, sgl.Valid(d))
			}
		}
	}
	for _, kind := range kinds() {
		if sgl.Valid(api.Descriptor{Kind: kind}) != (kind >= 1 && kind <= 5) {
			t.Errorf("kind %d: valid: %t", kind, sgl.Valid(api.Descriptor{Kind: kind}))
		}
	}
}

// decodesAsModel fails the test unless Decode has the result of the model, and Encode is its inverse where the descriptor is valid.
func decodesAsModel(t *testing.T, b item) {
	t.Helper()
	want, typed := b.descriptor()
	wantError := api.OK
	if !typed {
		wantError = api.ErrType
	}
	d, e := sgl.Decode(b.words())
	if d != want || e != wantError {
		t.Errorf("Decode(% x): %v %v, not %v %v", b[:], d, e, want, wantError)
	}
	if e != api.OK {
		return
	}
	w, e := sgl.Encode(d)
	if plainValid(d) && (w != b.words() || e != api.OK) {
		t.Errorf("Encode(Decode(% x)): %x %v", b[:], w, e)
	}
	if !plainValid(d) && e != api.ErrArg {
		t.Errorf("Encode(%v): %v", d, e)
	}
}

// P15.1: each type byte, with all other bytes 0 and with the others in use; only five are types.
func TestDecodeTypes(t *testing.T) {
	types := 0
	for b := range 256 {
		i := item{15: byte(b)}
		decodesAsModel(t, i)
		if _, e := sgl.Decode(i.words()); e == api.OK {
			types++
		}
		for at := range 12 {
			i[at] = byte(17*at + 5)
		}
		decodesAsModel(t, i)
		i[13] = 9
		decodesAsModel(t, i)
	}
	if types != 5 {
		t.Errorf("%d types", types)
	}
}

// P15.1: each of the bytes between the length and the type, with each value, for each kind: they are 0 except for a keyed data block.
func TestDecodeZeros(t *testing.T) {
	for _, d := range []api.Descriptor{block(1, 2), bucket(3), more(4, 5), last(6, 7), keyed(8, 9, 0)} {
		for place := 11; place < 15; place++ {
			for value := 1; value < 256; value++ {
				b := itemOf(d)
				b[place] = byte(value)
				decodesAsModel(t, b)
				_, e := sgl.Decode(b.words())
				want := api.ErrType
				if d.Kind == api.SGLKeyed || place == 11 {
					want = api.OK
				}
				if e != want {
					t.Errorf("%v with %d at %d: %v, not %v", d, value, place, e, want)
				}
			}
		}
	}
}

// P15.1: a bit bucket with an address has a type and can be decoded, but the descriptor is not valid.
func TestDecodeBucketWithAddress(t *testing.T) {
	for bit := range 64 {
		d, e := sgl.Decode([2]uint64{1 << bit, 1<<60 + 7})
		if d != (api.Descriptor{Kind: api.SGLBucket, Addr: 1 << bit, Len: 7}) || e != api.OK {
			t.Errorf("bit %d: %v %v", bit, d, e)
		}
		invalid(t, d)
	}
}

// P15.1, P15.5: each single bit of the words, alone and inverted, and random words.
func TestDecodeModel(t *testing.T) {
	r := rand.New(rand.NewPCG(1, 15))
	for _, kind := range []byte{0x00, 0x10, 0x20, 0x30, 0x40, 0x50, 0x41} {
		for place := range itemBytes {
			for bit := range 8 {
				b := item{15: kind}
				b[place] ^= 1 << bit
				decodesAsModel(t, b)
				for i := range b {
					b[i] = ^b[i]
				}
				decodesAsModel(t, b)
			}
		}
		for range 2000 {
			b := item{15: kind}
			for range r.IntN(16) {
				b[r.IntN(15)] = byte(r.Uint32())
			}
			decodesAsModel(t, b)
		}
	}
	for range 5000 {
		var b item
		for i := range b {
			b[i] = byte(r.Uint32())
		}
		decodesAsModel(t, b)
	}
}
