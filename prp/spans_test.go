package prp_test

import (
	"fmt"
	"math"
	"slices"
	"testing"

	"capsule/api"
	"capsule/memory"
	"capsule/prp"
)

// P14.2: the chapter's examples.
func TestSpansExamples(t *testing.T) {
	m := made(t, 4)
	yields(t, m, 100, 0, 50, at(100, 50))
	yields(t, m, 4000, 8192, 200, at(4000, 96), at(8192, 104))
	fails(t, m, 102, 0, 4, api.ErrOffset)
	fails(t, m, 4000, 8200, 200, api.ErrOffset)
	fails(t, m, 16380, 4, 5, api.ErrOffset)
	put(t, m, 12272, 4096, 8192)
	yields(t, m, 0, 12272, 9000, at(0, 4096), at(4096, 4096), at(8192, 808))
}

// P14.2: a transfer of no byte has no spans, whatever its addresses are.
func TestSpansNoPage(t *testing.T) {
	m := made(t, 2)
	for _, first := range []uint64{0, 1, 2, 3, 4, 4095, 8191, 8192, 8193, farAway, 1 << 63, math.MaxUint64} {
		for _, second := range []uint64{0, 1, 4096, 8192, math.MaxUint64} {
			yields(t, m, first, second, 0)
		}
	}
}

// P14.2: with one page the second address is not examined.
func TestSpansOnePage(t *testing.T) {
	m := made(t, 3)
	for _, second := range []uint64{0, 1, 4, 100, 4096, 12288, farAway, math.MaxUint64} {
		for _, first := range []uint64{0, 4, 100, 4092, 4096, 4100, 8188, 8192, 12284} {
			rest := pageBytes - int(first%pageBytes)
			for _, n := range []int{1, 2, 3, 4, rest - 1, rest} {
				yields(t, m, first, second, n, at(first, n))
			}
		}
	}
}

// P14.2: with two pages the second address is that of the second one, which may be any one, also the first one or one before it.
func TestSpansTwoPages(t *testing.T) {
	m := made(t, 3)
	for _, first := range []uint64{0, 4, 100, 4092, 4096, 8188, 8192, 12284} {
		rest := pageBytes - int(first%pageBytes)
		for _, second := range []uint64{0, 4096, 8192} {
			for _, more := range []int{1, 2, 100, 4095, 4096} {
				yields(t, m, first, second, rest+more, at(first, rest), at(second, more))
			}
		}
	}
}

// P14.2: spans are not joined, and the last one ends with the transfer, wherever in its page that is.
func TestSpansThreePages(t *testing.T) {
	m := made(t, 4)
	put(t, m, 12288, 4096, 8192)
	for _, more := range []int{1, 2, 3, 4, 4095, 4096} {
		yields(t, m, 0, 12288, 8192+more, at(0, 4096), at(4096, 4096), at(8192, more))
		yields(t, m, 4092, 12288, 4100+more, at(4092, 4), at(4096, 4096), at(8192, more))
	}
	put(t, m, 12288, 0, 0)
	yields(t, m, 0, 12288, 9000, at(0, 4096), at(0, 4096), at(0, 808))
}

// lengthOf returns the number of bytes of a transfer with so many pages from a place of a page on, the last one with so many bytes.
func lengthOf(place, pages, last int) int {
	if pages == 1 {
		return last
	}
	return pageBytes - place + (pages-2)*pageBytes + last
}

// laid returns the bytes of a memory whose lists, which begin at these addresses, contain the addresses of pages; all its other bytes are FF.
func laid(t *testing.T, pages int, lists []uint64, addresses []uint64) plain {
	t.Helper()
	p := make(plain, pages*pageBytes)
	for i := range p {
		p[i] = 0xFF
	}
	l, e := p.entries(lists, addresses)
	if e != api.OK {
		t.Fatal(e)
	}
	p.set(l...)
	return p
}

// turns returns so many addresses of pages, which are those of a few first pages in turn.
func turns(count, few int) []uint64 {
	var l []uint64
	for i := range count {
		l = append(l, uint64((i*3+1)%few)*pageBytes)
	}
	return l
}

// spansOf returns the spans of a transfer with these further pages.
func spansOf(first uint64, further []uint64, n int) []api.Span {
	size := min(n, pageBytes-int(first%pageBytes))
	l := []api.Span{at(first, size)}
	rest := n - size
	for _, addr := range further {
		size = min(rest, pageBytes)
		l = append(l, at(addr, size))
		rest -= size
	}
	return l
}

// P14.2: transfers of up to 257 pages whose first list has room for one address, for as many as there are, for one less and one more, and for as many as a page has.
func TestSpansLists(t *testing.T) {
	for _, pages := range []int{3, 4, 5, 6, 10, 100, 128, 255, 256, 257} {
		further := turns(pages-1, 7)
		for _, room := range []int{1, 2, 3, pages - 3, pages - 2, pages - 1, pages, pages + 1, 256, 257, 511, 512} {
			if room < 1 {
				continue
			}
			second := uint64(9*pageBytes - 8*room)
			m := filled(t, laid(t, 12, []uint64{second, 10 * pageBytes}, further))
			for _, first := range []uint64{4, 2048, 4092, 4096} {
				for _, last := range []int{1, 4092, 4096} {
					n := lengthOf(int(first%pageBytes), pages, last)
					if n > mostBytes {
						continue
					}
					yields(t, m, first, second, n, spansOf(first, further, n)...)
				}
			}
		}
	}
}

// P14.2: the longest transfers, with one list that ends exactly at its page's end, and with two lists because there is one address more.
func TestSpansLongest(t *testing.T) {
	for _, c := range []struct {
		first uint64
		pages int
	}{{4096, 256}, {0, 256}, {4, 257}, {2048, 257}, {4092, 257}} {
		for _, second := range []uint64{8192, 8192 + 2048, 8192 + 2048 + 8, 8192 + 2048 + 16, 8192 + 4088} {
			if n := plainCount(c.first, mostBytes); n != c.pages {
				t.Fatal(n)
			}
			further := turns(c.pages-1, 2)
			m := filled(t, laid(t, 4, []uint64{second, 12288}, further))
			yields(t, m, c.first, second, mostBytes, spansOf(c.first, further, mostBytes)...)
			yields(t, m, c.first, second, mostBytes-1, spansOf(c.first, further, mostBytes-1)...)
			fails(t, m, c.first, second, mostBytes+1, api.ErrArg)
		}
	}
}

// P14.2: in a list that ends with its page, the last place is an address of a page if it is the last one that is missing, and that of a list otherwise.
func TestSpansLastPlace(t *testing.T) {
	m := made(t, 8)
	const last = 5*pageBytes - 8
	put(t, m, last-8, 4096, 24576)
	put(t, m, 24576, 8192, 12288)
	yields(t, m, 0, last-8, 2*pageBytes+9, at(0, 4096), at(4096, 4096), at(24576, 9))
	yields(t, m, 0, last-8, 3*pageBytes, at(0, 4096), at(4096, 4096), at(24576, 4096))
	yields(t, m, 0, last-8, 3*pageBytes+1, at(0, 4096), at(4096, 4096), at(8192, 4096), at(12288, 1))
	yields(t, m, 0, last, 2*pageBytes+1, at(0, 4096), at(8192, 4096), at(12288, 1))
	yields(t, m, 0, last, 3*pageBytes, at(0, 4096), at(8192, 4096), at(12288, 4096))
	fails(t, m, 0, last, 2*pageBytes, api.ErrOffset)
}

// P14.2: a list never needs a third one, since the second one has room for all addresses; what is behind its last address is not examined.
func TestSpansNoThirdList(t *testing.T) {
	further := turns(256, 5)
	p := laid(t, 8, []uint64{6*pageBytes - 8, 6 * pageBytes}, further)
	for _, wrong := range []uint64{0, 1, 8192, math.MaxUint64} {
		p.set(entry{6*pageBytes + 8*256, wrong}, entry{7*pageBytes - 8, wrong})
		yields(t, filled(t, p), 4, 6*pageBytes-8, mostBytes, spansOf(4, further, mostBytes)...)
	}
}

// P14.2, P1: lists that name themselves, their own memory page, or a list before them, and lists in the pages of the transfer.
func TestSpansListsThatNameThemselves(t *testing.T) {
	m := made(t, 2)
	put(t, m, 4088, 0)
	put(t, m, 0, 4096, 0, 4096)
	yields(t, m, 8, 4088, 3*pageBytes, at(8, 4088), at(4096, 4096), at(0, 4096), at(4096, 8))
	put(t, m, 0, 0, 0, 0)
	yields(t, m, 0, 4088, 4*pageBytes, at(0, 4096), at(0, 4096), at(0, 4096), at(0, 4096))
	yields(t, m, 0, 0, 4*pageBytes, at(0, 4096), at(0, 4096), at(0, 4096), at(0, 4096))
	put(t, m, 4088, 4088)
	fails(t, m, 0, 4088, 4*pageBytes, api.ErrOffset)
	put(t, m, 8184, 4096)
	put(t, m, 4096, 8184)
	fails(t, m, 0, 8184, 4*pageBytes, api.ErrOffset)
	fails(t, m, 0, 4096, 4*pageBytes, api.ErrOffset)

	// All places of the page name its start, as addresses of pages and of a list.
	zero := made(t, 1)
	for _, second := range []uint64{0, 8, 2048, 2056, 4080, 4088} {
		yields(t, zero, 4, second, mostBytes, spansOf(4, make([]uint64, 256), mostBytes)...)
	}
}

// P14.2: the last page of the memory, its last bytes, and a list in its last place.
func TestSpansMemoryEnd(t *testing.T) {
	for _, pages := range []int{2, 3, memory.MaxPages} {
		m := made(t, pages)
		size := uint64(pages * pageBytes)
		lastPage := size - pageBytes
		yields(t, m, size-4, 0, 4, at(size-4, 4))
		yields(t, m, lastPage, 0, 4096, at(lastPage, 4096))
		yields(t, m, lastPage, lastPage, 8192, at(lastPage, 4096), at(lastPage, 4096))
		yields(t, m, size-4, lastPage, 4100, at(size-4, 4), at(lastPage, 4096))
		put(t, m, size-8, 0)
		put(t, m, 0, lastPage, 0)
		yields(t, m, size-4, size-8, 4101, at(size-4, 4), at(lastPage, 4096), at(0, 1))
		put(t, m, size-16, 0, lastPage)
		yields(t, m, size-4, size-16, 4101, at(size-4, 4), at(0, 4096), at(lastPage, 1))
	}
}

// P14.2: addresses that lie behind the memory, directly or as far as possible; one byte of a page is enough.
func TestSpansBeyondMemory(t *testing.T) {
	m := made(t, 4)
	for _, far := range []uint64{16384, 20480, 1 << 32, 1 << 52, 1<<63 - 4096, 1 << 63, math.MaxUint64 - 4095} {
		for _, place := range []uint64{0, 4, 4092} {
			for _, n := range []int{1, 4, 4096, 8192, mostBytes} {
				fails(t, m, far+place, 0, n, api.ErrRange)
			}
		}
		for _, n := range []int{4097, 5000, 8192} {
			fails(t, m, 0, far, n, api.ErrRange)
		}
		for _, place := range []uint64{0, 8, 2048, 4080, 4088} {
			for _, n := range []int{8193, 100000, mostBytes} {
				fails(t, m, 0, far+place, n, api.ErrRange)
			}
		}
		put(t, m, 4080, 8192, far)
		for _, n := range []int{8193, 12288, 12289, mostBytes} {
			fails(t, m, 0, 4080, n, api.ErrRange)
			fails(t, m, 0, 4088, n, api.ErrRange)
		}
		put(t, m, 4080, far)
		fails(t, m, 0, 4080, 8193, api.ErrRange)
		put(t, m, 4088, 12288)
		put(t, m, 12288, 0, 4096, far)
		yields(t, m, 0, 4088, 8193, at(0, 4096), at(0, 4096), at(4096, 1))
		fails(t, m, 0, 4088, 12289, api.ErrRange)
	}
}

// P14.2: each single bit of each address, in a memory of 64 KiB.
func TestSpansBits(t *testing.T) {
	// of returns the error of an address with this bit alone, which is a multiple of the unit only from one bit on.
	of := func(bit, unit int) api.Errno {
		if bit < unit {
			return api.ErrOffset
		}
		if bit >= 16 {
			return api.ErrRange
		}
		return api.OK
	}
	for bit := range 64 {
		v := uint64(1) << bit
		m := made(t, 16)
		check := func(what string, second uint64, n int, want api.Errno) {
			t.Helper()
			if _, e := prp.Spans(m, 0, second, n); e != want {
				t.Errorf("bit %d of the %s: %v, not %v", bit, what, e, want)
			}
		}
		if _, e := prp.Spans(m, v, 0, 1); e != of(bit, 2) {
			t.Errorf("bit %d of the first address: %v, not %v", bit, e, of(bit, 2))
		}
		check("second page", v, 8192, of(bit, 12))
		check("first list", v, 12288, of(bit, 3))
		put(t, m, 4080, v, 0)
		check("first page in a list", 4080, 12288, of(bit, 12))
		put(t, m, 4080, 0, v)
		check("last page in a list", 4080, 12288, of(bit, 12))
		put(t, m, 4080, 0, v)
		check("list in a list", 4080, 16384, of(bit, 12))
		check("list in a list", 4088, 12288, of(bit, 12))
		put(t, m, 4088, 8192)
		put(t, m, 8192, v, 0)
		check("first page in the second list", 4088, 12288, of(bit, 12))
		put(t, m, 8192, 0, v)
		check("last page in the second list", 4088, 12288, of(bit, 12))
	}
}

// P14.2: numbers of bytes beyond the limits, whatever the addresses are.
func TestSpansLength(t *testing.T) {
	m := made(t, 1)
	for _, n := range []int{math.MinInt, math.MinInt32, -mostBytes, -4096, -1, mostBytes + 1, mostBytes + 4096, math.MaxInt32, math.MaxInt - 4095, math.MaxInt} {
		for _, first := range []uint64{0, 1, 4096, math.MaxUint64} {
			for _, second := range []uint64{0, 1, 4096, math.MaxUint64} {
				fails(t, m, first, second, n, api.ErrArg)
			}
		}
	}
}

// P14.2: a nil and a zero memory, whatever the transfer is.
func TestSpansWithoutMemory(t *testing.T) {
	for _, m := range []*memory.Memory{nil, {}} {
		for _, n := range []int{math.MinInt, -1, 0, 1, 4096, 8192, 100000, mostBytes, mostBytes + 1} {
			for _, addr := range []uint64{0, 1, 4, 4096, math.MaxUint64} {
				if l, e := prp.Spans(m, addr, addr, n); len(l) != 0 || e != api.ErrNil {
					t.Errorf("Spans(nil, %d, %d, %d): %v, %v", addr, addr, n, l, e)
				}
				if l := collected(t, prp.Each(m, addr, addr, n)); len(l) != 0 {
					t.Errorf("Each(nil, %d, %d, %d): %v", addr, addr, n, l)
				}
			}
		}
	}
}

// transfer is the arguments of Spans and the addresses in the lists, in the order in which they are read.
type transfer struct {
	without       bool
	first, second uint64
	n             int
	words         []entry
}

func (x transfer) spans(t *testing.T) ([]api.Span, api.Errno) {
	t.Helper()
	if x.without {
		return prp.Spans(nil, x.first, x.second, x.n)
	}
	p := make(plain, 8*pageBytes)
	p.set(x.words...)
	return prp.Spans(filled(t, p), x.first, x.second, x.n)
}

// fault makes a transfer wrong.
type fault struct {
	name  string
	e     api.Errno
	apply func(x *transfer)
}

// faults returns what can be wrong with a transfer, in the order in which it is to be found. The second address is a multiple of a number of bytes.
func faults(x transfer, unit uint64) []fault {
	l := []fault{
		{"no memory", api.ErrNil, func(x *transfer) { x.without = true }},
		{"length", api.ErrArg, func(x *transfer) { x.n += mostBytes }},
		{"start", api.ErrOffset, func(x *transfer) { x.first |= 2 }},
		{"page 0", api.ErrRange, func(x *transfer) { x.first |= farAway }},
		{"second", api.ErrOffset, func(x *transfer) { x.second |= unit / 2 }},
		{"at second", api.ErrRange, func(x *transfer) { x.second |= farAway }},
	}
	for i := range x.words {
		l = append(l,
			fault{fmt.Sprint("word ", i), api.ErrOffset, func(x *transfer) { x.words[i].value |= 8 }},
			fault{fmt.Sprint("at word ", i), api.ErrRange, func(x *transfer) { x.words[i].value |= farAway }})
	}
	return l
}

// P14.2: of each one, two and three things that are wrong the first one is found, with a second page that the second address names, with a list, with one that ends with its page, and with lists that another list names.
func TestSpansErrorOrder(t *testing.T) {
	for _, c := range []struct {
		transfer
		unit uint64
	}{
		{transfer{first: 100, second: 8192, n: 5000}, 4096},
		{transfer{first: 100, second: 20480, n: 9000, words: []entry{{20480, 4096}, {20488, 8192}}}, 8},
		{transfer{first: 100, second: 24560, n: 9000, words: []entry{{24560, 4096}, {24568, 8192}}}, 8},
		{transfer{first: 100, second: 24560, n: 17000, words: []entry{{24560, 4096}, {24568, 24576}, {24576, 8192}, {24584, 12288}, {24592, 16384}}}, 8},
		{transfer{first: 100, second: 24568, n: 9000, words: []entry{{24568, 28672}, {28672, 8192}, {28680, 4096}}}, 8},
	} {
		l := faults(c.transfer, c.unit)
		if _, e := c.spans(t); e != api.OK {
			t.Fatal(e)
		}
		for i, f := range l {
			for j := i; j < len(l); j++ {
				for k := j; k < len(l); k++ {
					x := c.transfer
					x.words = slices.Clone(x.words)
					for _, g := range slices.Compact([]int{i, j, k}) {
						l[g].apply(&x)
					}
					if s, e := x.spans(t); len(s) != 0 || e != f.e {
						t.Errorf("%d bytes, %s, %s, %s: %v %v, not %v", c.n, f.name, l[j].name, l[k].name, s, e, f.e)
					}
				}
			}
		}
	}
}

// P14.2: each single address of the longest transfer is checked, in both lists.
func TestSpansEachAddress(t *testing.T) {
	further := turns(256, 5)
	p := laid(t, 8, []uint64{6*pageBytes - 8*100, 6 * pageBytes}, further)
	words, _ := p.entries([]uint64{6*pageBytes - 8*100, 6 * pageBytes}, further)
	if len(words) != 257 {
		t.Fatal(len(words))
	}
	for _, x := range words {
		for _, c := range []struct {
			wrong uint64
			e     api.Errno
		}{{x.value + 8, api.ErrOffset}, {x.value + 2048, api.ErrOffset}, {x.value + 1, api.ErrOffset}, {x.value + 8*pageBytes, api.ErrRange}, {x.value | 1<<63, api.ErrRange}} {
			p.set(entry{x.at, c.wrong})
			if l, e := prp.Spans(filled(t, p), 4, 6*pageBytes-8*100, mostBytes); len(l) != 0 || e != c.e {
				t.Errorf("%d at %d: %d spans, %v, not %v", c.wrong, x.at, len(l), e, c.e)
			}
		}
		p.set(x)
	}
}

// P14.2: an address behind the last one that is needed is not examined.
func TestSpansReadsNoMore(t *testing.T) {
	m := made(t, 8)
	put(t, m, 20480, 4096, 8192, 1, math.MaxUint64)
	yields(t, m, 0, 20480, 9000, at(0, 4096), at(4096, 4096), at(8192, 808))
	fails(t, m, 0, 20480, 12289, api.ErrOffset)
	put(t, m, 20488, 1)
	yields(t, m, 0, 4096, 8192, at(0, 4096), at(4096, 4096))
	fails(t, m, 0, 20480, 8193, api.ErrOffset)
}

// P14.2: results share no memory with each other.
func TestSpansNotShared(t *testing.T) {
	m := made(t, 4)
	put(t, m, 12288, 4096, 8192)
	want := []api.Span{at(0, 4096), at(4096, 4096), at(8192, 808)}
	a, _ := prp.Spans(m, 0, 12288, 9000)
	all := prp.Each(m, 0, 12288, 9000)
	b, _ := prp.Spans(m, 0, 12288, 9000)
	clear(a[:cap(a)])
	if !slices.Equal(b, want) || !slices.Equal(collected(t, all), want) {
		t.Errorf("%v", b)
	}
	yields(t, m, 0, 12288, 9000, want...)
}
