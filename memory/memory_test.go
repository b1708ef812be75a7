package memory_test

import (
	"bytes"
	"fmt"
	"math"
	"math/rand/v2"
	"slices"
	"testing"

	"capsule/api"
	"capsule/memory"
)

// P13.1: the numbers that the chapter names.
func TestConstants(t *testing.T) {
	if memory.PageSize != pageBytes || memory.MaxPages != mostPages || memory.MaxLog != loggedWrites {
		t.Error(memory.PageSize, memory.MaxPages, memory.MaxLog)
	}
}

// P13.1: numbers of pages at both limits and between them: bytes that are 0, and an empty log.
func TestNew(t *testing.T) {
	for _, pages := range []int{1, 2, 3, 255, 256, 257, mostPages - 1, mostPages} {
		newModel(pages).is(t, made(t, pages))
	}
}

// P13.1: numbers of pages beyond the limits, also those with which the number of bytes overflows.
func TestNewNotValid(t *testing.T) {
	for _, pages := range []int{0, -1, -2, -1024, math.MinInt32, math.MinInt + 1, math.MinInt, mostPages + 1, mostPages + 2, 4096, 1 << 20, 1<<32 + 1, 1 << 51, 1 << 52, 1<<52 + 1, math.MaxInt} {
		if m, e := memory.New(pages); m != nil || e != api.ErrArg {
			t.Errorf("New(%d): a memory: %t, %v", pages, m != nil, e)
		}
	}
}

// P13.1: the number of bytes does not change.
func TestSize(t *testing.T) {
	for _, pages := range []int{1, 7, mostPages} {
		m := made(t, pages)
		writes(t, m, 0, make([]byte, pages*pageBytes)...)
		for _, o := range []*memory.Memory{m, m.Copy()} {
			if n := o.Size(); n != pages*4096 {
				t.Errorf("Size with %d pages: %d", pages, n)
			}
		}
	}
}

// edges returns addresses around the limits of a memory of this size and of its first page, and ones behind which sums overflow.
func edges(size int) []uint64 {
	s := uint64(size)
	return []uint64{0, 1, 2, pageBytes - 2, pageBytes - 1, pageBytes, pageBytes + 1, s / 2, s - 2, s - 1, s, s + 1, s + 2, 2 * s, 1<<31 - 1, 1 << 31, 1<<32 - 1, 1 << 32, 1<<32 + 1,
		1<<63 - s, 1<<63 - 1, 1 << 63, 1<<63 + 1, math.MaxUint64 - s, math.MaxUint64 - s + 1, math.MaxUint64 - s + 2, math.MaxUint64 - 1, math.MaxUint64}
}

// lengths returns lengths around the same limits.
func lengths(size int) []int {
	return []int{math.MinInt, math.MinInt + 1, -size, -2, -1, 0, 1, 2, 3, pageBytes - 1, pageBytes, pageBytes + 1, size/2 - 1, size / 2, size/2 + 1, size - 1, size, size + 1, size + 2, math.MaxInt32, 1 << 32, math.MaxInt - size, math.MaxInt - 1, math.MaxInt}
}

// P13.1, P13.2, P1: Check, Read and Fill of spans at all these addresses with all these lengths, and Write of those that are not too long: those that do not lie in the memory change nothing and are not logged.
func TestEdges(t *testing.T) {
	for _, pages := range []int{1, 2, 3} {
		p := newPair(t, pages)
		size := pages * pageBytes
		p.write(t, 0, random(rand.New(rand.NewPCG(1, 1)), size))
		for _, addr := range edges(size) {
			for _, n := range lengths(size) {
				p.looks(t, addr, n)
				p.fill(t, addr, n, byte(addr)+byte(n))
				if n >= 0 && n <= size+2 {
					p.write(t, addr, bytes.Repeat([]byte{byte(n) ^ 0x55}, n))
				}
			}
			p.is(t)
		}
	}
}

// P13.1, P13.2: the same at the limits of the largest memory, without what differs in the middle.
func TestLargestEdges(t *testing.T) {
	const size = mostPages * pageBytes
	p := newPair(t, mostPages)
	for _, addr := range []uint64{0, 1, size - 1, size, size + 1, math.MaxUint64 - size + 1, math.MaxUint64} {
		for _, n := range []int{-1, 0, 1, 2, size - 1, size, size + 1} {
			p.looks(t, addr, n)
			p.fill(t, addr, n, byte(addr)+byte(n))
		}
		p.is(t)
	}
	b := random(rand.New(rand.NewPCG(1, 2)), size+1)
	p.write(t, 0, b)
	p.is(t)
	p.write(t, 1, b[1:])
	p.write(t, 0, b[1:])
	p.is(t)
}

// P13.1: the errors by name, and which one comes first where two things are wrong.
func TestErrors(t *testing.T) {
	m := made(t, 1)
	for _, c := range []struct {
		addr uint64
		n    int
		want api.Errno
	}{
		{0, -1, api.ErrArg}, {4096, -1, api.ErrArg}, {4097, -1, api.ErrArg}, {math.MaxUint64, -1, api.ErrArg}, {math.MaxUint64, math.MinInt, api.ErrArg}, {1, -2, api.ErrArg},
		{0, 0, api.OK}, {1, 0, api.OK}, {4095, 0, api.OK}, {4096, 0, api.OK}, {4097, 0, api.ErrRange}, {math.MaxUint64, 0, api.ErrRange},
		{0, 1, api.OK}, {4095, 1, api.OK}, {4096, 1, api.ErrRange}, {4097, 1, api.ErrRange}, {math.MaxUint64, 1, api.ErrRange},
		{0, 4096, api.OK}, {0, 4097, api.ErrRange}, {1, 4095, api.OK}, {1, 4096, api.ErrRange},
		{math.MaxUint64, 2, api.ErrRange}, {math.MaxUint64 - 4094, 4096, api.ErrRange}, {1 << 63, math.MaxInt, api.ErrRange}, {1<<63 + 1, math.MaxInt, api.ErrRange}, {0, math.MaxInt, api.ErrRange},
	} {
		gives(t, fmt.Sprintf("Check(%d, %d)", c.addr, c.n), m.Check(c.addr, c.n), c.want)
		b, e := m.Read(c.addr, c.n)
		gives(t, fmt.Sprintf("Read(%d, %d)", c.addr, c.n), e, c.want)
		if e != api.OK && b != nil || e == api.OK && len(b) != c.n {
			t.Errorf("Read(%d, %d): %d bytes", c.addr, c.n, len(b))
		}
		gives(t, fmt.Sprintf("Fill(%d, %d)", c.addr, c.n), m.Fill(c.addr, c.n, 0), c.want)
		if c.n >= 0 && c.n <= 4097 {
			gives(t, fmt.Sprintf("Write(%d, %d)", c.addr, c.n), m.Write(c.addr, make([]byte, c.n)), c.want)
		}
	}
}

// spans are spans within a page, up to a page's end, from a page's beginning, across two pages and across many, and the whole memory of eight pages.
func spans() []api.Span {
	var l []api.Span
	for _, s := range [][2]int{{0, 1}, {1, 1}, {10, 100}, {4090, 5}, {4090, 6}, {4095, 1}, {0, 4096}, {1, 4095}, {4096, 1}, {4096, 4096}, {8192, 10},
		{4090, 7}, {4095, 2}, {0, 4097}, {1, 4096}, {4096, 4097}, {8191, 4097}, {12288, 8192}, {4000, 8192}, {4095, 4098}, {1, 20000}, {4095, 24578}, {28671, 2}, {28672, 4096}, {32767, 1}, {1, 32766}, {1, 32767}, {0, 32767}, {0, 32768}} {
		l = append(l, api.Span{Addr: uint64(s[0]), Len: s[1]})
	}
	return l
}

// P13.2, P13.5: each of the spans, written and filled over other bytes: no byte before or behind it is changed.
func TestSpans(t *testing.T) {
	r := rand.New(rand.NewPCG(2, 1))
	old := newPair(t, 8)
	old.write(t, 0, random(r, 8*pageBytes))
	for _, s := range spans() {
		p := old.copied()
		p.write(t, s.Addr, random(r, s.Len))
		p.looks(t, s.Addr, s.Len)
		p.is(t)
		p = old.copied()
		p.fill(t, s.Addr, s.Len, byte(s.Len)|1)
		p.looks(t, s.Addr, s.Len)
		p.is(t)
	}
}

// P13.2, P13.5: spans that overlap: a byte has the value of the last one that contains it.
func TestOverlappingWrites(t *testing.T) {
	m := made(t, 1)
	writes(t, m, 10, 1, 1, 1, 1, 1, 1)
	writes(t, m, 8, 2, 2, 2)
	gives(t, "Fill", m.Fill(14, 4, 3), api.OK)
	writes(t, m, 12, 4)
	gives(t, "Fill", m.Fill(9, 1, 5), api.OK)
	reads(t, m, 7, 0, 2, 5, 2, 1, 4, 1, 3, 3, 3, 3, 0)
	gives(t, "Fill", m.Fill(0, 4096, 0), api.OK)
	reads(t, m, 0, make([]byte, 4096)...)
}

// P13.2: every value of a byte is stored as it is.
func TestAllValues(t *testing.T) {
	m := made(t, 1)
	var all []byte
	for v := range 256 {
		all = append(all, byte(v))
		gives(t, "Fill", m.Fill(uint64(1000+v), 1, byte(v)), api.OK)
	}
	writes(t, m, 100, all...)
	reads(t, m, 100, all...)
	reads(t, m, 1000, all...)
}

// P13.2: writes and fills of no byte succeed wherever such a span lies in the memory, and are not logged.
func TestNoBytes(t *testing.T) {
	m := made(t, 1)
	for _, b := range [][]byte{nil, {}} {
		for _, addr := range []uint64{0, 1, 4095, 4096} {
			gives(t, "Write", m.Write(addr, b), api.OK)
			gives(t, "Fill", m.Fill(addr, 0, 9), api.OK)
			if b, e := m.Read(addr, 0); len(b) != 0 || e != api.OK {
				t.Errorf("Read(%d, 0): %v, %v", addr, b, e)
			}
		}
		gives(t, "Write", m.Write(4097, b), api.ErrRange)
		gives(t, "Fill", m.Fill(4097, 0, 9), api.ErrRange)
		newModel(1).is(t, m)
	}
	writes(t, m, 5, 6)
	gives(t, "Write", m.Write(0, nil), api.OK)
	gives(t, "Fill", m.Fill(0, 0, 9), api.OK)
	writes(t, m, 7, 8)
	logs(t, m, of(0, 5, 1), of(1, 7, 1))
}

// P13.2: calls that fail change neither the bytes that lie in the memory nor the log, nor the number of the next write.
func TestFailuresChangeNothing(t *testing.T) {
	p := newPair(t, 2)
	p.fill(t, 0, 2*pageBytes, 0xAA)
	for range 3 {
		p.fill(t, 8190, 3, 1)
		p.fill(t, 0, 8193, 1)
		p.fill(t, 0, -1, 1)
		p.fill(t, 9000, -1, 1)
		p.fill(t, math.MaxUint64, 2, 1)
		p.write(t, 8191, []byte{1, 2})
		p.write(t, math.MaxUint64, []byte{1, 2})
		p.write(t, 1, make([]byte, 2*pageBytes))
		p.looks(t, 8191, 2)
		p.looks(t, 0, -1)
		p.is(t)
		p.write(t, 8191, []byte{1})
		p.is(t)
	}
}

// P13.1, P13.2: Check and Read change nothing, and are not logged.
func TestLooksChangeNothing(t *testing.T) {
	p := newPair(t, 1)
	p.write(t, 3, []byte{1, 2, 3})
	for range 3 {
		p.looks(t, 0, 10)
		p.looks(t, 0, pageBytes)
		p.looks(t, 4, 0)
		p.is(t)
	}
}

// P13.2: bytes that are written are not changed, nor those behind them, and what happens to them later has no effect.
func TestWriteCopies(t *testing.T) {
	m := made(t, 1)
	b := append(make([]byte, 0, 8), 1, 2, 3)
	copy(b[:8][3:], []byte{4, 5, 6, 7, 8})
	writes(t, m, 20, b...)
	gives(t, "Fill", m.Fill(21, 1, 9), api.OK)
	if !bytes.Equal(b[:8], []byte{1, 2, 3, 4, 5, 6, 7, 8}) {
		t.Errorf("%v", b[:8])
	}
	clear(b[:8])
	reads(t, m, 19, 0, 1, 9, 3, 0, 0)
}

// P13.2: bytes that were read belong to the caller: changes of them, and of what is behind them, have no effect, and later writes do not change them.
func TestReadCopies(t *testing.T) {
	m := made(t, 1)
	writes(t, m, 0, 1, 2, 3, 4)
	a, _ := m.Read(0, 2)
	b, _ := m.Read(0, 2)
	a[0] = 7
	a = append(a, 8, 9)
	clear(a[:cap(a)])
	reads(t, m, 0, 1, 2, 3, 4)
	writes(t, m, 0, 5, 6)
	if !bytes.Equal(b, []byte{1, 2}) {
		t.Errorf("%v", b)
	}
	none, _ := m.Read(1, 0)
	_ = append(none, 9)
	reads(t, m, 0, 5, 6, 3, 4)
	all, _ := m.Read(0, m.Size())
	clear(all)
	reads(t, m, 0, 5, 6, 3, 4)
}

// P13.2: bytes that were read are written next to where they came from.
func TestMovedBytes(t *testing.T) {
	m := made(t, 1)
	writes(t, m, 0, 1, 2, 3, 4, 5)
	b, _ := m.Read(0, 5)
	writes(t, m, 2, b...)
	reads(t, m, 0, 1, 2, 1, 2, 3, 4, 5, 0)
	b, _ = m.Read(2, 5)
	writes(t, m, 1, b...)
	reads(t, m, 0, 1, 1, 2, 3, 4, 5, 5, 0)
}

// P13.1 to P13.4, P1: all functions of a nil and of a zero memory, also with arguments that are not valid.
func TestNilAndZero(t *testing.T) {
	for _, m := range []*memory.Memory{nil, {}} {
		for _, addr := range edges(pageBytes) {
			for _, n := range lengths(pageBytes) {
				gives(t, "Check", m.Check(addr, n), api.ErrNil)
				b, e := m.Read(addr, n)
				gives(t, "Read", e, api.ErrNil)
				if b != nil {
					t.Errorf("Read: %v", b)
				}
				gives(t, "Fill", m.Fill(addr, n, 1), api.ErrNil)
			}
			for _, b := range [][]byte{nil, {}, {1}, make([]byte, pageBytes+1)} {
				gives(t, "Write", m.Write(addr, b), api.ErrNil)
			}
		}
		gives(t, "Clear", m.Clear(), api.ErrNil)
		if n := m.Size(); n != 0 {
			t.Errorf("Size: %d", n)
		}
		if c := m.Copy(); c != nil {
			t.Errorf("Copy: a memory of %d bytes", c.Size())
		}
		logs(t, m)
	}
}

// The chapter's examples: P13.1 to P13.3.
func TestExamples(t *testing.T) {
	for _, pages := range []int{0, 1025} {
		if m, e := memory.New(pages); m != nil || e != api.ErrArg {
			t.Errorf("New(%d): a memory: %t, %v", pages, m != nil, e)
		}
	}
	m := made(t, 1)
	if n := m.Size(); n != 4096 {
		t.Errorf("Size: %d", n)
	}
	gives(t, "Write(4094, [1 2])", m.Write(4094, []byte{1, 2}), api.OK)
	gives(t, "Write(4095, [1 2])", m.Write(4095, []byte{1, 2}), api.ErrRange)
	reads(t, m, 4093, 0, 1, 2)
	gives(t, "Fill(10, 3, 7)", m.Fill(10, 3, 7), api.OK)
	reads(t, m, 9, 0, 7, 7, 7, 0)
	gives(t, "Write(4096, [])", m.Write(4096, []byte{}), api.OK)
	if b, e := m.Read(0, -1); b != nil || e != api.ErrArg {
		t.Errorf("Read(0, -1): %v, %v", b, e)
	}
	if l := listed(m); !slices.Equal(l, []logged{of(0, 4094, 2), of(1, 10, 3)}) {
		t.Errorf("Writes: %v", l)
	}
	gives(t, "Clear", m.Clear(), api.OK)
	gives(t, "Write(0, [5])", m.Write(0, []byte{5}), api.OK)
	logs(t, m, of(0, 0, 1))
}
