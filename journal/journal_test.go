package journal_test

import (
	"bytes"
	"encoding/binary"
	"math"
	"math/rand/v2"
	"slices"
	"testing"

	"capsule/api"
	"capsule/journal"
)

const (
	topSector = 4294967294
	topPage   = 4294967294
)

// room is the capacity of a page, counted one entry at a time.
func room(size int) int {
	n := 0
	for size >= 12 && size <= 8192 && 4+8*(n+1) <= size {
		n++
	}
	return n
}

// data is the chapter's description of the data of a page, without its limits.
func data(size int, l ...api.MapEntry) []byte {
	b := binary.LittleEndian.AppendUint32(nil, uint32(len(l)))
	for _, m := range l {
		b = binary.LittleEndian.AppendUint32(b, uint32(m.Sector))
		b = binary.LittleEndian.AppendUint32(b, uint32(m.Page+1))
	}
	return append(b, make([]byte, size-len(b))...)
}

// numbered returns n valid entries that differ from each other and from those of other seeds.
func numbered(n, seed int) []api.MapEntry {
	l := make([]api.MapEntry, n)
	for i := range l {
		l[i] = api.MapEntry{Sector: (i*257 + seed*1000003) % (topSector + 1), Page: (i*65537+seed)%(topPage+2) - 1}
	}
	return l
}

// few returns the first entries of a list, for the messages of tests.
func few(l []api.MapEntry) []api.MapEntry {
	return l[:min(len(l), 5)]
}

// encodes fails the test unless Encode returns the data of a page, and Decode its entries.
func encodes(t *testing.T, size int, l ...api.MapEntry) {
	t.Helper()
	b, e := journal.Encode(size, l...)
	if e != api.OK || !bytes.Equal(b, data(size, l...)) {
		t.Errorf("Encode(%d) of %d entries: %.40x, %v", size, len(l), b, e)
	}
	decodes(t, data(size, l...), l...)
}

// cannotEncode fails the test unless Encode returns this error and nothing else.
func cannotEncode(t *testing.T, want api.Errno, size int, l ...api.MapEntry) {
	t.Helper()
	if b, e := journal.Encode(size, l...); len(b) != 0 || e != want {
		t.Errorf("Encode(%d) of %d entries: %.40x, %v, not %v", size, len(l), b, e, want)
	}
}

// decodes fails the test unless Decode returns these entries.
func decodes(t *testing.T, b []byte, want ...api.MapEntry) {
	t.Helper()
	if l, e := journal.Decode(b); e != api.OK || !slices.Equal(l, want) {
		t.Errorf("Decode(%.40x) of %d bytes: %v, %v, not %v", b, len(b), few(l), e, few(want))
	}
}

// cannotDecode fails the test unless Decode returns this error and nothing else.
func cannotDecode(t *testing.T, want api.Errno, b []byte) {
	t.Helper()
	if l, e := journal.Decode(b); len(l) != 0 || e != want {
		t.Errorf("Decode(%.40x) of %d bytes: %v, %v, not %v", b, len(b), few(l), e, want)
	}
}

// The chapter's examples.
func TestExamples(t *testing.T) {
	for size, want := range map[int]int{11: 0, 12: 1, 27: 2, 28: 3} {
		if n := journal.Capacity(size); n != want {
			t.Errorf("Capacity(%d): %d", size, n)
		}
	}
	if n, m := journal.Pages(28, 7), journal.Pages(28, 0); n != 3 || m != 1 {
		t.Errorf("Pages(28, 7) %d, Pages(28, 0) %d", n, m)
	}
	b, e := journal.Encode(20, api.MapEntry{Sector: 7, Page: 2})
	if e != api.OK || !bytes.Equal(b, []byte{1, 0, 0, 0, 7, 0, 0, 0, 3, 0, 0, 0, 0, 0, 0, 0, 0, 0, 0, 0}) {
		t.Errorf("%x, %v", b, e)
	}
	b, e = journal.Encode(20, api.MapEntry{Sector: 7, Page: -1})
	if e != api.OK || len(b) != 20 || !bytes.Equal(b[8:], make([]byte, 12)) {
		t.Errorf("%x, %v", b, e)
	}
	c := journal.Follow(
		page(api.SpareDelta, 1, 0, 0, 1, api.MapEntry{Sector: 1, Page: 5}),
		page(api.SpareDelta, 3, 1, 0, 1, api.MapEntry{Sector: 1, Page: 6}),
		page(api.SpareDelta, 2, 1, 0, 2, api.MapEntry{Sector: 1, Page: 7}))
	if c.Last != 3 || !slices.Equal(c.Used, []int{0, 1}) || !slices.Equal(c.Entries, []api.MapEntry{{Sector: 1, Page: 5}, {Sector: 1, Page: 6}}) {
		t.Errorf("%v", c)
	}
}

// P8.1: all sizes up to twice the limit, and sizes far beyond the limits, also below 0.
func TestCapacity(t *testing.T) {
	for size := -9000; size <= 17000; size++ {
		if n := journal.Capacity(size); n != room(size) {
			t.Errorf("Capacity(%d): %d, not %d", size, n, room(size))
		}
	}
	for size, want := range map[int]int{
		math.MinInt: 0, math.MinInt32: 0, -12: 0, -1: 0, 0: 0, 3: 0, 4: 0, 11: 0, 12: 1, 19: 1, 20: 2,
		4160: 519, 8187: 1022, 8188: 1023, 8192: 1023, 8193: 0, 1<<32 + 12: 0, math.MaxInt: 0,
	} {
		if n := journal.Capacity(size); n != want {
			t.Errorf("Capacity(%d): %d, not %d", size, n, want)
		}
	}
}

// P8.1: each number of entries around the multiples of the capacity, for all sizes.
func TestPages(t *testing.T) {
	is := func(size, entries, want int) {
		t.Helper()
		if n := journal.Pages(size, entries); n != want {
			t.Errorf("Pages(%d, %d): %d, not %d", size, entries, n, want)
		}
	}
	for size := range 9000 {
		c := room(size)
		if c == 0 {
			for _, entries := range []int{math.MinInt, -1, 0, 1, 2, 1000, math.MaxInt} {
				is(size, entries, 0)
			}
			continue
		}
		is(size, 0, 1)
		for _, n := range []int{1, 2, 3, 7, 65535, 65536, 1 << 31} {
			is(size, (n-1)*c+1, n)
			is(size, n*c-c/2, n)
			is(size, n*c, n)
		}
	}
}

// P8.1, P1: numbers of entries and sizes beyond their limits, also where the sum of two of them would overflow.
func TestPagesOfWrongNumbers(t *testing.T) {
	for _, c := range [][3]int{
		{12, -1, 0}, {12, math.MinInt, 0}, {28, -3, 0}, {8192, -1023, 0}, {8192, math.MinInt32, 0},
		{-12, 1, 0}, {-1, 0, 0}, {11, 1, 0}, {8193, 1, 0}, {math.MinInt, 1, 0}, {math.MaxInt, math.MaxInt, 0}, {1<<32 + 12, 1, 0},
		{12, math.MaxInt, math.MaxInt}, {20, math.MaxInt, 1 << 62}, {20, math.MaxInt - 1, 1<<62 - 1},
	} {
		if n := journal.Pages(c[0], c[1]); n != c[2] {
			t.Errorf("Pages(%d, %d): %d, not %d", c[0], c[1], n, c[2])
		}
	}
	if n := journal.Pages(8192, math.MaxInt); n != (math.MaxInt-1)/1023+1 {
		t.Errorf("Pages(8192, MaxInt): %d", n)
	}
}

// P8.2, P8.5: all sizes with no entry, one entry, as many as the capacity, and one fewer; the bytes behind the entries are zeros.
func TestEncodeAllSizes(t *testing.T) {
	for size := 12; size <= 8192; size++ {
		c := room(size)
		for _, n := range []int{0, 1, c - 1, c} {
			if n < 100 || size%61 < 2 || size > 8170 {
				encodes(t, size, numbered(n, size)...)
			}
		}
		if c < 100 || size > 8180 {
			cannotEncode(t, api.ErrLong, size, numbered(c+1, size)...)
		}
	}
}

// P8.2: a Sector and a Page at and beyond their limits, as the only entry and among others.
func TestEncodeLimits(t *testing.T) {
	good := api.MapEntry{Sector: 3, Page: 9}
	for _, sector := range []int{0, 1, 255, 256, math.MaxInt32, 1 << 31, topSector - 1, topSector} {
		for _, p := range []int{-1, 0, 1, 254, 255, 256, math.MaxInt32, topPage - 1, topPage} {
			m := api.MapEntry{Sector: sector, Page: p}
			encodes(t, 12, m)
			encodes(t, 31, good, m, good)
			encodes(t, 100, m, m, good)
		}
	}
	for _, m := range wrongEntries() {
		for _, l := range [][]api.MapEntry{{m}, {m, good}, {good, m}, {good, m, good}, {m, m}} {
			cannotEncode(t, api.ErrArg, 28, l...)
		}
	}
}

// wrongEntries returns entries with one or two numbers beyond their limits.
func wrongEntries() []api.MapEntry {
	var l []api.MapEntry
	for _, n := range []int{math.MinInt, math.MinInt32, -4294967296, -2, 1<<32 - 1, 1 << 32, 1<<32 + 1, 1 << 62, math.MaxInt} {
		l = append(l, api.MapEntry{Sector: n, Page: 1}, api.MapEntry{Sector: 1, Page: n}, api.MapEntry{Sector: n, Page: n}, api.MapEntry{Sector: n, Page: -1})
	}
	return append(l, api.MapEntry{Sector: -1, Page: 1}, api.MapEntry{Sector: -1, Page: -1})
}

// P8.2: sizes without a capacity, with any entries.
func TestEncodeWrongSizes(t *testing.T) {
	for _, size := range []int{math.MinInt, -12, -1, 0, 1, 3, 4, 5, 8, 11, 8193, 8200, 1 << 20, 1<<32 + 12, math.MaxInt} {
		for _, n := range []int{0, 1, 2, 1024} {
			cannotEncode(t, api.ErrArg, size, numbered(n, 1)...)
		}
	}
}

// P8.2: an entry that is not valid comes before too many entries, wherever it is.
func TestEncodeErrorOrder(t *testing.T) {
	for _, wrong := range []api.MapEntry{{Sector: -1}, {Page: -2}, {Sector: topSector + 1}, {Page: topPage + 1}} {
		for i := range 5 {
			l := numbered(5, 2)
			l[i] = wrong
			cannotEncode(t, api.ErrArg, 28, l...)
			cannotEncode(t, api.ErrArg, 11, l...)
		}
	}
	cannotEncode(t, api.ErrLong, 28, numbered(4, 2)...)
	cannotEncode(t, api.ErrLong, 12, numbered(5000, 2)...)
}

// P8.2: bytes of each number that has no capacity, whatever they contain.
func TestDecodeWrongSizes(t *testing.T) {
	cannotDecode(t, api.ErrArg, nil)
	for n := range 12 {
		for _, c := range []byte{0, 1, 255} {
			cannotDecode(t, api.ErrArg, bytes.Repeat([]byte{c}, n))
		}
		cannotDecode(t, api.ErrArg, data(12, numbered(1, 1)...)[:n])
	}
	for _, n := range []int{8193, 8194, 8200, 16384} {
		cannotDecode(t, api.ErrArg, make([]byte, n))
		cannotDecode(t, api.ErrArg, data(n, numbered(1, 1)...))
	}
}

// P8.2: numbers of entries up to the capacity and beyond it.
func TestDecodeNumbers(t *testing.T) {
	for _, size := range []int{12, 13, 19, 20, 27, 28, 35, 36, 100, 8187, 8188, 8192} {
		c := room(size)
		for n := range c + 1 {
			if n < 20 || n > c-3 {
				decodes(t, data(size, numbered(n, 3)...), numbered(n, 3)...)
			}
		}
		for _, n := range []uint32{uint32(c) + 1, uint32(c) + 2, 256 * uint32(c), 1 << 16, 1 << 24, 1 << 31, math.MaxUint32} {
			for _, l := range [][]api.MapEntry{nil, numbered(1, 4), numbered(c, 4)} {
				b := data(size, l...)
				binary.LittleEndian.PutUint32(b, n)
				cannotDecode(t, api.ErrFormat, b)
			}
		}
	}
}

// P8.2: an entry whose Sector is one too great, at each place; with the next smaller number it is valid.
func TestDecodeSectors(t *testing.T) {
	for i := range 4 {
		l := numbered(4, 5)
		b := data(40, l...)
		binary.LittleEndian.PutUint32(b[4+8*i:], math.MaxUint32)
		cannotDecode(t, api.ErrFormat, b)
		binary.LittleEndian.PutUint32(b[4+8*i:], math.MaxUint32-1)
		l[i].Sector = topSector
		decodes(t, b, l...)
		binary.LittleEndian.PutUint32(b[8+8*i:], math.MaxUint32)
		l[i].Page = topPage
		decodes(t, b, l...)
	}
}

// P8.2: each byte behind the entries, also those behind the last entry that could be there.
func TestDecodeRest(t *testing.T) {
	for _, size := range []int{12, 13, 19, 20, 25, 27, 28, 36, 39} {
		for n := range room(size) + 1 {
			l := numbered(n, 6)
			for at := 4 + 8*n; at < size; at++ {
				for _, c := range []byte{1, 2, 128, 255} {
					b := data(size, l...)
					b[at] = c
					cannotDecode(t, api.ErrFormat, b)
				}
			}
		}
	}
	b := data(8192, numbered(1023, 6)...)
	b[8191] = 1
	cannotDecode(t, api.ErrFormat, b)
}

// P8.2: each value of each byte of small pages gives what the fields show, or an error.
func TestDecodeChangedBytes(t *testing.T) {
	for _, n := range []int{0, 1, 2} {
		for at := range 22 {
			for c := range 256 {
				b := data(22, numbered(n, 7)...)
				b[at] = byte(c)
				if l, ok := shown(b); ok {
					decodes(t, b, l...)
				} else {
					cannotDecode(t, api.ErrFormat, b)
				}
			}
		}
	}
}

// shown reads the fields of a page with enough bytes: the first entries of it, unless encoding them gives other bytes.
func shown(b []byte) ([]api.MapEntry, bool) {
	n := binary.LittleEndian.Uint32(b)
	if n > uint32(room(len(b))) {
		return nil, false
	}
	var l []api.MapEntry
	for i := range int(n) {
		sector := binary.LittleEndian.Uint32(b[4+8*i:])
		if sector == math.MaxUint32 {
			return nil, false
		}
		l = append(l, api.MapEntry{Sector: int(sector), Page: int(binary.LittleEndian.Uint32(b[8+8*i:])) - 1})
	}
	return l, bytes.Equal(data(len(b), l...), b)
}

// P8.2, P8.5: pages of random entries, and of bytes that are near to pages.
func TestRandomPages(t *testing.T) {
	r := rand.New(rand.NewPCG(8, 1))
	for range 4000 {
		size := 12 + r.IntN(60)
		l := make([]api.MapEntry, r.IntN(room(size)+1))
		for i := range l {
			l[i] = api.MapEntry{Sector: r.IntN(topSector + 1), Page: r.IntN(topPage+2) - 1}
		}
		encodes(t, size, l...)
		b := data(size, l...)
		for range 1 + r.IntN(3) {
			b[r.IntN(size)] = byte(r.IntN(4) * 85)
		}
		if l, ok := shown(b); ok {
			decodes(t, b, l...)
		} else {
			cannotDecode(t, api.ErrFormat, b)
		}
	}
}

// P8.2, P1: random bytes of random numbers never cause a panic, and what is decoded is what was encoded.
func TestRandomBytes(t *testing.T) {
	r := rand.New(rand.NewPCG(8, 2))
	for range 4000 {
		b := make([]byte, r.IntN(50))
		for i := range b {
			b[i] = byte(r.Uint32() >> (r.IntN(4) * 8))
		}
		if l, e := journal.Decode(b); e == api.OK {
			if again, e := journal.Encode(len(b), l...); e != api.OK || !bytes.Equal(again, b) {
				t.Errorf("Encode of what Decode(%x) returned: %x, %v", b, again, e)
			}
		}
	}
}
