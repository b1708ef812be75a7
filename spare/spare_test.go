package spare_test

import (
	"bytes"
	"math"
	"math/rand/v2"
	"slices"
	"testing"

	"capsule/api"
	"capsule/spare"
)

// P5.1: each field of a description of data at and beyond its limits.
func TestValidData(t *testing.T) {
	base := api.Spare{Kind: api.SpareData, Sector: 7, Sequence: 300, Length: 1}
	for i, c := range []struct {
		change func(*api.Spare)
		want   bool
	}{
		{func(s *api.Spare) {}, true},
		{func(s *api.Spare) { s.Sequence = 0 }, false},
		{func(s *api.Spare) { s.Sequence = 1 }, true},
		{func(s *api.Spare) { s.Sequence = 1 << 63 }, true},
		{func(s *api.Spare) { s.Sequence = maxNumber }, true},
		{func(s *api.Spare) { s.Sector = math.MinInt }, false},
		{func(s *api.Spare) { s.Sector = -1 }, false},
		{func(s *api.Spare) { s.Sector = 0 }, true},
		{func(s *api.Spare) { s.Sector = api.MaxSector }, true},
		{func(s *api.Spare) { s.Sector = api.MaxSector + 1 }, false},
		{func(s *api.Spare) { s.Sector = api.MaxSector + 2 }, false},
		{func(s *api.Spare) { s.Sector = math.MaxInt }, false},
		{func(s *api.Spare) { s.Prev = 1 }, false},
		{func(s *api.Spare) { s.Prev = maxNumber }, false},
		{func(s *api.Spare) { s.Length = 0 }, false},
		{func(s *api.Spare) { s.Length = 2 }, false},
		{func(s *api.Spare) { s.Length = -1 }, false},
		{func(s *api.Spare) { s.Length = api.MaxRecord }, false},
		{func(s *api.Spare) { s.Index = -1 }, false},
		{func(s *api.Spare) { s.Index = 1 }, false},
		{func(s *api.Spare) { s.Index, s.Length = 1, 2 }, false},
		{func(s *api.Spare) { s.Index = math.MinInt }, false},
	} {
		s := base
		c.change(&s)
		if spare.Valid(s) != c.want {
			t.Errorf("case %d: Valid(%v) is not %t", i, s, c.want)
		}
	}
}

// P5.1: each field of a description of the journal at and beyond its limits.
func TestValidJournal(t *testing.T) {
	for _, kind := range []api.SpareKind{api.SpareDelta, api.SpareCheckpoint} {
		for i, c := range []struct {
			sector         int
			sequence, prev uint64
			index, length  int
			want           bool
		}{
			{0, 300, 200, 3, 9, true},
			{1, 300, 200, 3, 9, false}, {-1, 300, 200, 3, 9, false}, {math.MinInt, 300, 200, 3, 9, false}, {math.MaxInt, 300, 200, 3, 9, false},
			{0, 0, 0, 0, 1, false}, {0, 1, 0, 0, 1, true}, {0, maxNumber, 0, 0, 1, true}, {0, 1, 1, 0, 1, false},
			{0, 300, 200, 3, math.MinInt, false}, {0, 300, 200, 0, -1, false}, {0, 300, 200, 0, 0, false}, {0, 300, 200, 0, 1, true},
			{0, 300, 200, 3, api.MaxRecord, true}, {0, 300, 200, 3, api.MaxRecord + 1, false}, {0, 300, 200, 3, math.MaxInt, false},
			{0, 300, 200, math.MinInt, 9, false}, {0, 300, 200, -1, 9, false}, {0, 300, 200, 0, 9, true},
			{0, 300, 200, 8, 9, true}, {0, 300, 200, 9, 9, false}, {0, 300, 200, 10, 9, false}, {0, 300, 200, math.MaxInt, 9, false},
			{0, 1 << 20, 0, api.MaxRecord - 1, api.MaxRecord, true}, {0, 1 << 20, 0, api.MaxRecord, api.MaxRecord, false},
		} {
			s := api.Spare{Kind: kind, Sector: c.sector, Sequence: c.sequence, Prev: c.prev, Index: c.index, Length: c.length}
			if spare.Valid(s) != c.want {
				t.Errorf("case %d: Valid(%v) is not %t", i, s, c.want)
			}
		}
	}
}

// P5.1: Prev plus Index is below Sequence, also where the sum passes the range of the type.
func TestValidSum(t *testing.T) {
	for _, kind := range []api.SpareKind{api.SpareDelta, api.SpareCheckpoint} {
		for i, c := range []struct {
			sequence, prev uint64
			index          int
			want           bool
		}{
			{5, 3, 0, true}, {5, 4, 0, true}, {5, 5, 0, false}, {5, 6, 0, false},
			{5, 3, 1, true}, {5, 4, 1, false}, {5, 5, 1, false}, {5, 0, 4, true}, {5, 0, 5, false}, {5, 0, 6, false},
			{5, maxNumber, 0, false}, {5, maxNumber, 1, false}, {5, maxNumber, 2, false}, {5, maxNumber - 1, 2, false}, {5, maxNumber - 3, 5, false},
			{maxNumber, maxNumber - 1, 0, true}, {maxNumber, maxNumber - 1, 1, false}, {maxNumber, maxNumber - 1, 2, false},
			{maxNumber, maxNumber, 0, false}, {maxNumber, maxNumber, 1, false}, {maxNumber, 0, 65534, true},
			{maxNumber, maxNumber - 65535, 65534, true}, {maxNumber, maxNumber - 65534, 65534, false}, {maxNumber, maxNumber - 65533, 65534, false},
			{1 << 63, 1<<63 - 1, 0, true}, {1 << 63, 1<<63 - 1, 1, false}, {1<<63 + 1, 1<<63 - 1, 1, true},
		} {
			s := api.Spare{Kind: kind, Sequence: c.sequence, Prev: c.prev, Index: c.index, Length: api.MaxRecord}
			if spare.Valid(s) != c.want {
				t.Errorf("case %d: Valid(%v) is not %t", i, s, c.want)
			}
		}
	}
}

// P5.1: only three kinds are those of a description.
func TestValidKinds(t *testing.T) {
	for kind := range 256 {
		s := api.Spare{Kind: api.SpareKind(kind), Sequence: 1, Length: 1}
		if want := kind >= 1 && kind <= 3; spare.Valid(s) != want {
			t.Errorf("Valid(%v) is not %t", s, want)
		}
	}
	cannotEncode(t, api.Spare{}, nil)
}

// P5.1, P5.2 and P1: all combinations of fields, compared with the model; what is not valid cannot be encoded, and not be decoded although its checksum matches.
func TestAllFields(t *testing.T) {
	data, valid := filled(3, 1), 0
	for s := range descriptions {
		if isValid(s) {
			valid++
			if b := encoded(t, s, data); !spare.Valid(s) || !bytes.Equal(b, sealed(body(s), data)) {
				t.Errorf("Encode(%v): %x; Valid: %t", s, b, spare.Valid(s))
			}
			decodes(t, sealed(body(s), data), data, s)
			continue
		}
		cannotEncode(t, s, data)
		if fits(s) {
			cannotDecode(t, sealed(body(s), data), data, api.ErrFormat)
		}
	}
	if valid < 100 {
		t.Error("there are only", valid, "valid combinations")
	}
}

// P5.1: each byte of an encoding, written out.
func TestBytes(t *testing.T) {
	s := api.Spare{Kind: api.SpareCheckpoint, Sequence: 0x1817161514131211, Prev: 0x0807060504030201, Index: 0xA1A2, Length: 0xB1B2}
	want := []byte{
		0x43, 0x46, 0x54, 0x4C, 3, 0, 0, 0,
		0x11, 0x12, 0x13, 0x14, 0x15, 0x16, 0x17, 0x18,
		0x01, 0x02, 0x03, 0x04, 0x05, 0x06, 0x07, 0x08,
		0, 0, 0, 0, 0xA2, 0xA1, 0, 0,
		0xB2, 0xB1, 0, 0, 0, 0, 0, 0,
		0, 0, 0, 0, 0, 0, 0, 0, 0, 0, 0, 0, 0, 0, 0, 0, 0, 0, 0, 0,
	}
	if b := encoded(t, s, []byte("data")); !bytes.Equal(b[:bodySize], want) || !bytes.Equal(b, sealed(want, []byte("data"))) {
		t.Errorf("%x", b)
	}
	s = api.Spare{Kind: api.SpareData, Sector: 0xC1C2C3C4, Sequence: 1, Length: 1}
	want = append([]byte{0x43, 0x46, 0x54, 0x4C, 1, 0, 0, 0, 1}, make([]byte, 51)...)
	copy(want[24:], []byte{0xC4, 0xC3, 0xC2, 0xC1})
	want[32] = 1
	if b := encoded(t, s, nil); !bytes.Equal(b[:bodySize], want) || !bytes.Equal(b, sealed(want, nil)) {
		t.Errorf("%x", b)
	}
}

// P5.1: a checksum that was computed elsewhere, of data and of no data.
func TestKnownChecksums(t *testing.T) {
	s := api.Spare{Kind: api.SpareData, Sector: 7, Sequence: 300, Length: 1}
	for _, c := range []struct {
		data string
		want []byte
	}{
		{"", []byte{0x3D, 0xE0, 0x98, 0xD8}},
		{"123456789", []byte{0xF4, 0x26, 0x6C, 0x65}},
	} {
		if b := encoded(t, s, []byte(c.data)); !bytes.Equal(b[bodySize:], c.want) {
			t.Errorf("the checksum for %q: %x, not %x", c.data, b[bodySize:], c.want)
		}
	}
}

// P5.1, P5.2 and P5.4: data of no, one and many bytes; Decode inverts Encode.
func TestDecodeOfEncode(t *testing.T) {
	for i, s := range samples() {
		for _, n := range []int{0, 1, 2, 3, 4, 5, 59, 60, 63, 64, 65, 255, 512, api.SectorSize, 8192, 1<<20 + 1} {
			data := filled(n, i)
			b := encoded(t, s, data)
			if !bytes.Equal(b, sealed(body(s), data)) {
				t.Errorf("Encode(%v) with %d bytes of data: %x", s, n, b)
			}
			decodes(t, b, data, s)
			cannotDecode(t, b, append(data, 0), api.ErrCheck)
			if n > 0 {
				cannotDecode(t, b, data[:n-1], api.ErrCheck)
				cannotDecode(t, b, data[1:], api.ErrCheck)
			}
		}
	}
}

// P5.1 and P5.2: nil and empty data are equivalent.
func TestNoData(t *testing.T) {
	for _, s := range samples() {
		b, c := encoded(t, s, nil), encoded(t, s, []byte{})
		if !bytes.Equal(b, c) {
			t.Errorf("%x, %x", b, c)
		}
		decodes(t, b, []byte{}, s)
		decodes(t, b, nil, s)
	}
}

// P5.2: spare bytes that are not 64 are ErrArg, whatever else is wrong.
func TestDecodeLengths(t *testing.T) {
	data := filled(5, 1)
	whole := encoded(t, samples()[0], data)
	for _, n := range []int{0, 1, 4, 32, 59, 60, 61, 62, 63, 65, 68, 127, 128, 129, 4096} {
		long := append(slices.Clone(whole), bytes.Repeat(whole, 64)...)
		cannotDecode(t, long[:n], data, api.ErrArg)
		cannotDecode(t, make([]byte, n), data, api.ErrArg)
		cannotDecode(t, bytes.Repeat([]byte{0xFF}, n), nil, api.ErrArg)
	}
	cannotDecode(t, nil, nil, api.ErrArg)
	cannotDecode(t, nil, data, api.ErrArg)
	for n := range bodySize { // a shorter body with a checksum that matches
		cannotDecode(t, sealed(whole[:n], data), data, api.ErrArg)
	}
	cannotDecode(t, sealed(append(slices.Clone(whole[:bodySize]), 0), data), data, api.ErrArg)
}

// P5.2: a checksum that does not match is ErrCheck, whether or not the other bytes are those of an encoding.
func TestDecodeChecksFirst(t *testing.T) {
	data := filled(5, 1)
	for _, s := range append(samples(), api.Spare{}, api.Spare{Kind: 4, Sequence: 1, Length: 1}, api.Spare{Kind: api.SpareData, Length: 1}) {
		right := sealed(body(s), data)
		for i := bodySize; i < api.SpareSize; i++ {
			for bit := range 8 {
				b := slices.Clone(right)
				b[i] ^= 1 << bit
				cannotDecode(t, b, data, api.ErrCheck)
			}
		}
	}
	cannotDecode(t, make([]byte, 64), nil, api.ErrCheck)
	cannotDecode(t, bytes.Repeat([]byte{0xFF}, 64), nil, api.ErrCheck)
	swapped := sealed(body(samples()[0]), data)
	slices.Reverse(swapped[bodySize:])
	cannotDecode(t, swapped, data, api.ErrCheck)
}

// P5.2: another beginning, and bytes that must be 0 and are not, are ErrFormat if the checksum matches.
func TestDecodeFormat(t *testing.T) {
	data := filled(5, 1)
	fixed := []int{0, 1, 2, 3, 5, 6, 7}
	for i := 36; i < bodySize; i++ {
		fixed = append(fixed, i)
	}
	for _, s := range samples() {
		for _, i := range fixed {
			for change := 1; change < 256; change++ {
				b := body(s)
				b[i] ^= byte(change)
				cannotDecode(t, sealed(b, data), data, api.ErrFormat)
			}
		}
	}
	cannotDecode(t, sealed(make([]byte, bodySize), nil), nil, api.ErrFormat)
	cannotDecode(t, sealed(bytes.Repeat([]byte{0xFF}, bodySize), nil), nil, api.ErrFormat)
}

// P5.2: fields that are moved are not those of an encoding, even if they are valid where they are and the checksum matches.
func TestDecodeMovedFields(t *testing.T) {
	data := filled(5, 1)
	for _, s := range samples() {
		right := body(s)
		for n := 1; n <= 3; n++ {
			ahead := append(slices.Delete(slices.Clone(right), 5, 5+n), make([]byte, n)...)
			behind := slices.Insert(slices.Clone(right), 8, make([]byte, n)...)[:bodySize]
			late := append(make([]byte, n), right[:bodySize-n]...)
			for _, b := range [][]byte{ahead, behind, late} {
				if want := described(b); !isValid(want) || !bytes.Equal(body(want), b) {
					cannotDecode(t, sealed(b, data), data, api.ErrFormat)
				}
			}
		}
	}
}

// P5.2: each byte of an encoding with each other value, if the checksum matches: another valid description, or ErrFormat.
func TestDecodeEveryByte(t *testing.T) {
	data := filled(2, 3)
	for _, s := range samples() {
		for i := range bodySize {
			for value := range 256 {
				b := body(s)
				b[i] = byte(value)
				if want := described(b); isValid(want) && bytes.Equal(body(want), b) {
					decodes(t, sealed(b, data), data, want)
				} else {
					cannotDecode(t, sealed(b, data), data, api.ErrFormat)
				}
			}
		}
	}
}

// P5.3: only 64 bytes FF are blank.
func TestBlank(t *testing.T) {
	for n := range 200 {
		if b := bytes.Repeat([]byte{0xFF}, n); spare.Blank(b) != (n == 64) {
			t.Errorf("Blank of %d bytes FF: %t", n, spare.Blank(b))
		}
		if b := make([]byte, n); spare.Blank(b) {
			t.Errorf("Blank of %d bytes 0", n)
		}
	}
	for i := range 64 {
		for value := range 255 {
			b := bytes.Repeat([]byte{0xFF}, 64)
			b[i] = byte(value)
			if spare.Blank(b) {
				t.Errorf("Blank with the byte %d at %d", value, i)
			}
		}
	}
	if spare.Blank(nil) || spare.Blank([]byte{}) || spare.Blank(encoded(t, samples()[0], nil)) {
		t.Error("Blank of nil, of no bytes, or of an encoding")
	}
}

// P5.3: the names of all numbers.
func TestName(t *testing.T) {
	for k := range 256 {
		want := map[int]string{1: "data", 2: "delta", 3: "checkpoint"}[k]
		if got := spare.Name(api.SpareKind(k)); got != want {
			t.Errorf("Name(%d): %q, not %q", k, got, want)
		}
	}
}

// P5.1 and P5.2: the chapter's examples.
func TestExamples(t *testing.T) {
	s := api.Spare{Kind: api.SpareData, Sector: 7, Sequence: 300, Length: 1}
	b := encoded(t, s, nil)
	if b[4] != 1 || b[8] != 0x2C || b[9] != 1 || b[10] != 0 || b[24] != 7 || b[28] != 0 || b[32] != 1 {
		t.Errorf("%x", b)
	}
	decodes(t, b, nil, s)
	cannotDecode(t, b, []byte{0}, api.ErrCheck)
	cannotDecode(t, b[:63], nil, api.ErrArg)
	for _, c := range []struct {
		s    api.Spare
		want bool
	}{
		{api.Spare{Kind: api.SpareData, Length: 1}, false},
		{api.Spare{Kind: api.SpareDelta, Sequence: 5, Prev: 4, Length: 1}, true},
		{api.Spare{Kind: api.SpareDelta, Sequence: 5, Prev: 4, Index: 1, Length: 2}, false},
	} {
		if spare.Valid(c.s) != c.want {
			t.Errorf("Valid(%v) is not %t", c.s, c.want)
		}
	}
}

// P5.1 to P5.3 and the document's rules: arguments are not changed, not even behind their ends, and nothing is kept or shared.
func TestSharesNothing(t *testing.T) {
	s := samples()[5]
	store := filled(40, 2)
	before := slices.Clone(store)
	data := store[10:20]
	first := encoded(t, s, data)
	want := slices.Clone(first)
	data[3] ^= 0xFF
	if !bytes.Equal(first, want) {
		t.Error("the result changed with the data")
	}
	data[3] ^= 0xFF
	clear(first)
	_ = append(first[:0], 1, 2, 3)
	if b := encoded(t, s, data); !bytes.Equal(b, want) {
		t.Errorf("%x, not %x", b, want)
	}
	page := append(slices.Clone(want), 9, 9, 9)
	kept := slices.Clone(page)
	got, e := spare.Decode(page[:64], data)
	if got != s || e != api.OK || spare.Blank(page[:64]) {
		t.Error(got, e)
	}
	cannotDecode(t, page[1:65], data, api.ErrCheck)
	if !bytes.Equal(page, kept) || !bytes.Equal(store, before) {
		t.Error("an argument was changed")
	}
	clear(page)
	if got != s {
		t.Error("the description changed with the spare bytes")
	}
	cannotDecode(t, page[:64], data, api.ErrCheck)
	decodes(t, want, data, s)
}

// P1: nothing panics for bytes and descriptions of any kind.
func TestAnything(t *testing.T) {
	r := rand.New(rand.NewPCG(5, 5))
	for range 20000 {
		b, data := make([]byte, r.IntN(70)), make([]byte, r.IntN(9))
		for _, part := range [][]byte{b, data} {
			for i := range part {
				part[i] = byte(r.Uint32())
			}
		}
		want := api.ErrCheck
		if len(b) != 64 {
			want = api.ErrArg
		}
		cannotDecode(t, b, data, want)
		if len(b) >= bodySize {
			cannotDecode(t, sealed(b[:bodySize], data), data, api.ErrFormat)
		}
		s := api.Spare{Kind: api.SpareKind(r.Uint32()), Sector: int(r.Uint64()), Sequence: r.Uint64(), Prev: r.Uint64(), Index: int(r.Uint64()), Length: int(r.Uint64())}
		cannotEncode(t, s, data)
		spare.Name(s.Kind)
		spare.Blank(b)
	}
}
