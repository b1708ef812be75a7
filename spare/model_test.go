package spare_test

import (
	"encoding/binary"
	"hash/crc32"
	"math"
	"math/bits"
	"slices"
	"testing"

	"capsule/api"
	"capsule/spare"
)

const (
	bodySize  = 60
	maxNumber = math.MaxUint64
)

// isValid is the chapter's definition of a valid description, with a sum that does not overflow.
func isValid(s api.Spare) bool {
	if s.Kind != 1 && s.Kind != 2 && s.Kind != 3 {
		return false
	}
	if s.Sequence == 0 || s.Length < 1 || s.Length > 65535 || s.Index < 0 || s.Index > s.Length-1 {
		return false
	}
	if s.Kind == 1 {
		return s.Sector >= 0 && s.Sector <= 4294967294 && s.Prev == 0 && s.Length == 1
	}
	sum, carry := bits.Add64(s.Prev, uint64(s.Index), 0)
	return s.Sector == 0 && carry == 0 && sum < s.Sequence
}

// fits reports whether the fields of a description, valid or not, can be written into an encoding.
func fits(s api.Spare) bool {
	for _, n := range []int{s.Sector, s.Index, s.Length} {
		if n < 0 || n > math.MaxUint32 {
			return false
		}
	}
	return true
}

// body returns the bytes before the checksum for a description whose fields fit, valid or not.
func body(s api.Spare) []byte {
	b := []byte{0x43, 0x46, 0x54, 0x4C, byte(s.Kind), 0, 0, 0}
	b = binary.LittleEndian.AppendUint64(b, s.Sequence)
	b = binary.LittleEndian.AppendUint64(b, s.Prev)
	b = binary.LittleEndian.AppendUint32(b, uint32(s.Sector))
	b = binary.LittleEndian.AppendUint32(b, uint32(s.Index))
	b = binary.LittleEndian.AppendUint32(b, uint32(s.Length))
	return append(b, make([]byte, 24)...)
}

// described returns the description that the fields of a body show.
func described(b []byte) api.Spare {
	return api.Spare{
		Kind:     api.SpareKind(b[4]),
		Sequence: binary.LittleEndian.Uint64(b[8:]),
		Prev:     binary.LittleEndian.Uint64(b[16:]),
		Sector:   int(binary.LittleEndian.Uint32(b[24:])),
		Index:    int(binary.LittleEndian.Uint32(b[28:])),
		Length:   int(binary.LittleEndian.Uint32(b[32:])),
	}
}

// sealed returns a body followed by the checksum that matches it and the data.
func sealed(body, data []byte) []byte {
	sum := crc32.Checksum(slices.Concat(data, body), crc32.MakeTable(crc32.Castagnoli))
	return binary.LittleEndian.AppendUint32(slices.Clone(body), sum)
}

// descriptions returns all combinations of fields at, next to and beyond their limits, with every kind of description.
func descriptions(yield func(api.Spare) bool) {
	numbers := []uint64{0, 1, 2, 3, 65534, 65535, 1 << 32, 1 << 63, maxNumber - 1, maxNumber}
	indices := []int{math.MinInt, -1, 0, 1, 2, 65533, 65534, 65535, math.MaxUint32, math.MaxInt}
	lengths := []int{math.MinInt, -1, 0, 1, 2, 3, 65534, 65535, 65536, math.MaxUint32, 1<<32 + 1, math.MaxInt}
	sectors := []int{math.MinInt, -1, 0, 1, 4294967293, 4294967294, 4294967295, 1 << 32, math.MaxInt}
	for _, kind := range []api.SpareKind{0, 1, 2, 3, 4, 128, 255} {
		for _, sequence := range numbers {
			for _, prev := range numbers {
				for _, index := range indices {
					for _, length := range lengths {
						for _, sector := range sectors {
							if !yield(api.Spare{Kind: kind, Sector: sector, Sequence: sequence, Prev: prev, Index: index, Length: length}) {
								return
							}
						}
					}
				}
			}
		}
	}
}

// samples returns valid descriptions with all kinds of fields.
func samples() []api.Spare {
	return []api.Spare{
		{Kind: api.SpareData, Sector: 7, Sequence: 300, Length: 1},
		{Kind: api.SpareData, Sequence: 1, Length: 1},
		{Kind: api.SpareData, Sector: api.MaxSector, Sequence: maxNumber, Length: 1},
		{Kind: api.SpareDelta, Sequence: 1, Length: 1},
		{Kind: api.SpareDelta, Sequence: 5, Prev: 4, Length: 1},
		{Kind: api.SpareDelta, Sequence: 0x0807060504030201, Prev: 0x0706050403020100, Index: 0x0A0B, Length: 0x0C0D},
		{Kind: api.SpareCheckpoint, Sequence: maxNumber, Prev: maxNumber - api.MaxRecord, Index: api.MaxRecord - 1, Length: api.MaxRecord},
		{Kind: api.SpareCheckpoint, Sequence: 70000, Index: 255, Length: 256},
	}
}

// filled returns n bytes that differ from each other and from those of other seeds.
func filled(n, seed int) []byte {
	b := make([]byte, n)
	for i := range b {
		b[i] = byte((i + seed*37 + 1) % 251)
	}
	return b
}

// encoded returns what Encode returns for a valid description.
func encoded(t *testing.T, s api.Spare, data []byte) []byte {
	t.Helper()
	b, e := spare.Encode(s, data)
	if e != api.OK || len(b) != api.SpareSize {
		t.Fatalf("Encode(%v): %x, %v", s, b, e)
	}
	return b
}

// cannotEncode fails the test unless a description is refused everywhere.
func cannotEncode(t *testing.T, s api.Spare, data []byte) {
	t.Helper()
	if b, e := spare.Encode(s, data); len(b) != 0 || e != api.ErrArg || spare.Valid(s) {
		t.Errorf("Encode(%v): %x, %v; Valid: %t", s, b, e, spare.Valid(s))
	}
}

// decodes fails the test unless the page has this description.
func decodes(t *testing.T, b, data []byte, want api.Spare) {
	t.Helper()
	if s, e := spare.Decode(b, data); s != want || e != api.OK {
		t.Errorf("Decode(%x) with %d bytes of data: %v, %v, not %v", b, len(data), s, e, want)
	}
}

// cannotDecode fails the test unless Decode returns this error and nothing else.
func cannotDecode(t *testing.T, b, data []byte, want api.Errno) {
	t.Helper()
	if s, e := spare.Decode(b, data); s != (api.Spare{}) || e != want {
		t.Errorf("Decode(%x) with %d bytes of data: %v, %v, not %v", b, len(data), s, e, want)
	}
}
