package prp_test

import (
	"math"
	"slices"
	"testing"

	"capsule/api"
	"capsule/memory"
	"capsule/prp"
)

// P14.3: the chapter's examples.
func TestBuildExamples(t *testing.T) {
	m := made(t, 4)
	first, second, e := prp.Build(m, []uint64{12272}, []uint64{0, 4096, 8192}, 0, 9000)
	if first != 0 || second != 12272 || e != api.OK {
		t.Error(first, second, e)
	}
	yields(t, m, 0, 12272, 9000, at(0, 4096), at(4096, 4096), at(8192, 808))
	first, second, e = prp.Build(m, []uint64{12280}, []uint64{0, 4096, 8192, 4096}, 0, 13000)
	if first != 0 || second != 0 || e != api.ErrFull || prp.Lists(12280, 4) != 2 {
		t.Error(first, second, e)
	}
}

// refused fails the test unless Build returns an error, and no addresses, and writes nothing.
func refused(t *testing.T, m *memory.Memory, lists, pages []uint64, offset, n int, want api.Errno) {
	t.Helper()
	before, log := m.Copy(), logged(m)
	first, second, e := prp.Build(m, lists, pages, offset, n)
	if first != 0 || second != 0 || e != want {
		t.Errorf("Build(%v, %d pages, %d, %d): %d %d %v, not %v", lists, len(pages), offset, n, first, second, e, want)
	}
	if !memory.Same(m, before) || !slices.Equal(logged(m), log) {
		t.Errorf("Build(%v, %d pages, %d, %d) has written", lists, len(pages), offset, n)
	}
}

// returns fails the test unless Build returns these addresses and writes nothing.
func returns(t *testing.T, m *memory.Memory, lists, pages []uint64, offset, n int, first, second uint64) {
	t.Helper()
	before := m.Copy()
	a, b, e := prp.Build(m, lists, pages, offset, n)
	if a != first || b != second || e != api.OK {
		t.Errorf("Build(%v, %v, %d, %d): %d %d %v, not %d %d", lists, pages, offset, n, a, b, e, first, second)
	}
	if !memory.Same(m, before) || len(logged(m)) != 0 {
		t.Errorf("Build(%v, %v, %d, %d) has written", lists, pages, offset, n)
	}
}

// topPage is the largest address of a page.
const topPage = math.MaxUint64 - 4095

// P14.3: no page, one page and two pages: no list is needed or written, and the pages and the lists may lie anywhere.
func TestBuildWithoutLists(t *testing.T) {
	m := made(t, 2)
	for _, lists := range [][]uint64{nil, {}, {0}, {8}, {4088, 4096}, {8192, farAway, topPage}, {math.MaxUint64 - 7}, {0, 0, 0, 0}} {
		for _, offset := range []int{0, 4, 100, 4088, 4092} {
			rest := pageBytes - offset
			returns(t, m, lists, nil, offset, 0, 0, 0)
			returns(t, m, lists, []uint64{}, offset, 0, 0, 0)
			for _, addr := range []uint64{0, 4096, 8192, farAway, topPage} {
				for _, n := range []int{1, 4, rest} {
					returns(t, m, lists, []uint64{addr}, offset, n, addr+uint64(offset), 0)
				}
				for _, n := range []int{1, 4, 4096} {
					returns(t, m, lists, []uint64{addr, 4096}, offset, rest+n, addr+uint64(offset), 4096)
					returns(t, m, lists, []uint64{4096, addr}, offset, rest+n, 4096+uint64(offset), addr)
				}
			}
		}
	}
}

// P14.3: transfers of three to 257 pages with lists at all kinds of places, with as many lists as are needed, with one less and with more, and with lists or pages beyond the memory.
func TestBuildLists(t *testing.T) {
	for _, pages := range []int{3, 4, 5, 9, 100, 255, 256, 257} {
		for _, room := range []int{1, 2, 3, pages - 3, pages - 2, pages - 1, pages, 255, 256, 257, 512} {
			if room < 1 {
				continue
			}
			for _, end := range []uint64{4096, 8192, 12288, 16384, 0} {
				list := end - 8*uint64(room) // beyond the memory, and the largest addresses, for the last two ends
				for _, lists := range [][]uint64{{}, {list}, {list, 8192}, {list, 0, 4096}, {list, list &^ 4095}, {list, 12288}, {list, topPage}, {list, 4096, topPage, 12288, 0}} {
					m := filled(t, someBytes(3))
					builds(t, m, lists, turns(pages, 6), 4, lengthOf(4, pages, 1))
					yieldsPages(t, m, lists, turns(pages, 3), 4, lengthOf(4, pages, 1))
				}
			}
		}
	}
}

// someBytes returns bytes of which no two neighbouring ones are the same.
func someBytes(pages int) plain {
	p := make(plain, pages*pageBytes)
	for i := range p {
		p[i] = byte(0x80 + i%101)
	}
	return p
}

// P14.3: the places of one list and of two lists, and what is in them.
func TestBuildEntries(t *testing.T) {
	m := filled(t, someBytes(4))
	pages := []uint64{4096, farAway, 8192, 0, topPage, 4096}
	a, b, e := prp.Build(m, []uint64{4096 - 16, 12288, 8192}, pages, 2000, lengthOf(2000, 6, 4000))
	if a != 4096+2000 || b != 4096-16 || e != api.OK {
		t.Error(a, b, e)
	}
	want := someBytes(4)
	copy(want[4096-16:], []byte{0, 0, 0, 0, 0, 1, 0, 0, 0, 0x30, 0, 0, 0, 0, 0, 0})
	copy(want[12288:], []byte{0, 0x20, 0, 0, 0, 0, 0, 0, 0, 0, 0, 0, 0, 0, 0, 0, 0, 0xF0, 255, 255, 255, 255, 255, 255, 0, 0x10, 0, 0, 0, 0, 0, 0})
	if !slices.Equal(contents(t, m), want) {
		t.Error("other bytes")
	}

	m = filled(t, someBytes(4))
	a, b, e = prp.Build(m, []uint64{4096 - 16}, []uint64{0, 0x7FFFF000, 0x123456789000}, 0, 8193)
	if a != 0 || b != 4096-16 || e != api.OK {
		t.Error(a, b, e)
	}
	want = someBytes(4)
	copy(want[4096-16:], []byte{0, 0xF0, 0xFF, 0x7F, 0, 0, 0, 0, 0, 0x90, 0x78, 0x56, 0x34, 0x12, 0, 0})
	if !slices.Equal(contents(t, m), want) {
		t.Error("other bytes")
	}
}

// P14.3: the longest transfers.
func TestBuildLongest(t *testing.T) {
	for _, offset := range []int{0, 4, 2048, 4092} {
		for _, list := range []uint64{0, 2040, 2048, 2056, 2064, 4088} {
			pages := turns(plainCount(uint64(offset), mostBytes), 4)
			m := filled(t, someBytes(4))
			builds(t, m, []uint64{list, 8192}, pages, offset, mostBytes)
			if !yieldsPages(t, m, []uint64{list, 8192}, pages, offset, mostBytes) {
				t.Errorf("offset %d, list at %d: no spans", offset, list)
			}
			refused(t, m, []uint64{list, 8192}, append(pages, 0), offset, mostBytes+1, api.ErrArg)
		}
	}
}

// P14.3: numbers of bytes that are out of range, with every number of pages.
func TestBuildLength(t *testing.T) {
	m := made(t, 2)
	for _, n := range []int{math.MinInt, math.MinInt32, -4096, -1, mostBytes + 1, mostBytes + 4096, math.MaxInt32, math.MaxInt} {
		for _, pages := range []int{0, 1, 2, 3, 256, 257, 258} {
			refused(t, m, []uint64{4096}, make([]uint64, pages), 0, n, api.ErrArg)
			refused(t, m, []uint64{4096}, make([]uint64, pages), 4, n, api.ErrArg)
		}
	}
}

// P14.3: all offsets at and around the limits, with no page, one page, two and three pages.
func TestBuildOffset(t *testing.T) {
	m := made(t, 2)
	for offset := -4100; offset <= 8200; offset++ {
		for _, pages := range [][]uint64{{}, {0}, {4096, 0}, {0, 4096, 0}} {
			place := ((offset % pageBytes) + pageBytes) % pageBytes
			n := 0
			if len(pages) > 0 {
				n = lengthOf(place, len(pages), 1)
			}
			want := api.ErrArg
			if offset >= 0 && offset <= 4092 && offset%4 == 0 {
				want = api.OK
			}
			if _, _, e := prp.Build(m, []uint64{4096}, pages, offset, n); e != want {
				t.Fatalf("Build(%v, %d, %d): %v, not %v", pages, offset, n, e, want)
			}
		}
	}
	for _, offset := range []int{math.MinInt, math.MinInt + 4, math.MinInt32, math.MaxInt - 3, math.MaxInt, 1 << 32, 1 << 20} {
		for _, pages := range []int{0, 1, 2, 3, 257} {
			refused(t, m, []uint64{4096}, make([]uint64, pages), offset, pages*4096, api.ErrArg)
		}
	}
}

// P14.3: numbers of pages that are not that of the transfer.
func TestBuildNumberOfPages(t *testing.T) {
	m := made(t, 2)
	for _, offset := range []int{0, 4, 4092} {
		for _, n := range []int{0, 1, 4, 5, 4092, 4093, 4096, 4097, 8188, 8189, 8192, 8193, 100000, mostBytes - 4, mostBytes} {
			count := plainCount(uint64(offset), n)
			for _, pages := range []int{0, 1, 2, 3, 4, count - 2, count - 1, count, count + 1, count + 2, 256, 257, 258, 1000} {
				if pages >= 0 {
					builds(t, m, []uint64{0, 4096}, make([]uint64, pages), offset, n)
				}
				if pages >= 0 && pages != count {
					refused(t, m, []uint64{0, 4096}, make([]uint64, pages), offset, n, api.ErrArg)
				}
			}
		}
	}
}

// P14.3: each bit of the address of each page and of each list, also of lists that are not needed.
func TestBuildBits(t *testing.T) {
	m := made(t, 2)
	for bit := range 64 {
		v := uint64(1) << bit
		for count := 1; count <= 5; count++ {
			for i := range count {
				pages := make([]uint64, count)
				pages[i] = v
				want := api.OK
				if bit < 12 {
					want = api.ErrArg
				}
				if _, _, e := prp.Build(m, []uint64{4096}, pages, 0, count*4096); e != want {
					t.Errorf("page %d of %d at %d: %v, not %v", i, count, v, e, want)
				}
			}
		}
		for count := range 6 {
			if bit >= 3 {
				continue
			}
			refused(t, m, []uint64{v}, make([]uint64, count), 0, count*4096, api.ErrArg)
			refused(t, m, []uint64{4096 + v, 0, 0}, make([]uint64, count), 0, count*4096, api.ErrArg)
		}
		for count := range 6 {
			for i := 1; i < 4; i++ {
				lists := []uint64{4088, 4096, 0, 4096}
				lists[i] ^= v
				if bit < 12 {
					refused(t, m, lists, make([]uint64, count), 0, count*4096, api.ErrArg)
				} else {
					builds(t, m, lists, make([]uint64, count), 0, count*4096)
				}
			}
		}
	}
}

// P14.3: too few lists.
func TestBuildFull(t *testing.T) {
	m := filled(t, someBytes(3))
	for _, pages := range []int{3, 4, 100, 257} {
		refused(t, m, nil, turns(pages, 2), 4, lengthOf(4, pages, 1), api.ErrFull)
		refused(t, m, []uint64{}, turns(pages, 2), 4, lengthOf(4, pages, 1), api.ErrFull)
		for room := 1; room < pages-1; room++ {
			refused(t, m, []uint64{8192 - 8*uint64(room)}, turns(pages, 2), 4, lengthOf(4, pages, 1), api.ErrFull)
		}
	}
}

// P14.3: lists that are needed and do not lie in the memory: the first one, the second one, both of them; those that are not needed may lie anywhere.
func TestBuildRange(t *testing.T) {
	m := filled(t, someBytes(3))
	pages := []uint64{0, 4096, 0}
	for _, beyond := range []uint64{12288, 16384, farAway, 1 << 63, topPage} {
		refused(t, m, []uint64{beyond}, pages, 0, 8193, api.ErrRange)
		refused(t, m, []uint64{beyond + 8, 4096}, pages, 0, 8193, api.ErrRange)
		refused(t, m, []uint64{beyond + 4080, beyond}, pages, 0, 8193, api.ErrRange)
		refused(t, m, []uint64{beyond + 4088, 4096}, pages, 0, 8193, api.ErrRange)
		refused(t, m, []uint64{4088, beyond}, pages, 0, 8193, api.ErrRange)
		refused(t, m, []uint64{8192 - 8*100, beyond}, turns(257, 2), 4, mostBytes, api.ErrRange)
	}
	for _, beyond := range []uint64{12288, 16384, farAway, 1 << 63, topPage} {
		builds(t, m, []uint64{4080, beyond}, pages, 0, 8193)
		builds(t, m, []uint64{4088, 8192, beyond}, pages, 0, 8193)
		builds(t, m, []uint64{12280, 8192, beyond}, pages, 0, 8193)
		builds(t, m, []uint64{12272, beyond, beyond}, []uint64{beyond, beyond, beyond}, 4, 8193)
		builds(t, m, []uint64{12288 - 16}, []uint64{beyond, beyond, beyond}, 4, 8193)
	}
}

// P14.3: a nil and a zero memory, whatever the other arguments are.
func TestBuildWithoutMemory(t *testing.T) {
	for _, m := range []*memory.Memory{nil, {}} {
		for _, lists := range [][]uint64{nil, {0}, {1}, {topPage, 1}} {
			for count := range 5 {
				for _, n := range []int{math.MinInt, -1, 0, 1, 4096, 8192, count * 4096, mostBytes, mostBytes + 1} {
					for _, offset := range []int{math.MinInt, -4, 0, 1, 4, 4096} {
						refused(t, m, lists, make([]uint64, count), offset, n, api.ErrNil)
					}
				}
			}
		}
	}
}

// P14.3: of several errors the first one is returned: ErrArg for every reason before ErrFull, and that before ErrRange.
func TestBuildErrorOrder(t *testing.T) {
	m := made(t, 2)
	three := []uint64{0, 4096, 0}
	for _, c := range []struct {
		lists, pages []uint64
		offset, n    int
		want         api.Errno
	}{
		{nil, three, 0, -1, api.ErrArg}, {nil, three, 0, mostBytes + 1, api.ErrArg}, {nil, three, -4, 8193, api.ErrArg}, {nil, three, 2, 8193, api.ErrArg},
		{nil, three, 4096, 8193, api.ErrArg}, {nil, three, 0, 8192, api.ErrArg}, {nil, three, 0, 12289, api.ErrArg}, {nil, []uint64{0, 8, 0}, 0, 8193, api.ErrArg},
		{[]uint64{4}, three, 0, 8193, api.ErrArg}, {[]uint64{topPage + 4}, three, 0, 8193, api.ErrArg}, {[]uint64{topPage, 8}, three, 0, 8193, api.ErrArg},
		{[]uint64{topPage}, three, 0, -1, api.ErrArg}, {[]uint64{topPage}, three, -4, 8193, api.ErrArg}, {[]uint64{topPage}, three, 0, 8192, api.ErrArg},
		{[]uint64{topPage}, []uint64{0, 0, 2048}, 0, 8193, api.ErrArg}, {[]uint64{4088}, []uint64{1, 0, 0}, 0, 8193, api.ErrArg}, {[]uint64{4088, topPage + 8}, three, 0, 8193, api.ErrArg},
		{[]uint64{topPage + 4088}, three, 0, 8193, api.ErrFull}, {[]uint64{8192 + 4088}, three, 0, 8193, api.ErrFull}, {nil, []uint64{topPage, topPage, topPage}, 0, 8193, api.ErrFull},
		{[]uint64{topPage + 4088, topPage}, three, 0, 8193, api.ErrRange}, {[]uint64{4088, topPage}, []uint64{topPage, topPage, topPage}, 0, 8193, api.ErrRange},
	} {
		refused(t, m, c.lists, c.pages, c.offset, c.n, c.want)
	}
}

// P14.3: lists in one memory page, and the same list given several times.
func TestBuildOverlap(t *testing.T) {
	for _, pages := range []int{3, 100, 257} {
		for _, lists := range [][]uint64{{4088, 0}, {0, 0}, {0, 0, 0}, {2048, 0, 0}, {2056, 0}, {4096, 4096}, {4096 + 2056, 4096, 4096}, {8184, 4096}} {
			m := filled(t, someBytes(2))
			builds(t, m, lists, turns(pages, 2), 4, lengthOf(4, pages, 1))
			if !yieldsPages(t, m, lists, turns(pages, 2), 4, lengthOf(4, pages, 1)) {
				t.Errorf("%d pages, lists %v: no spans", pages, lists)
			}
		}
	}
}

// P14.3: arguments are not changed, also not behind their ends, and not kept.
func TestBuildArguments(t *testing.T) {
	m := made(t, 4)
	lists, pages := []uint64{4080, 8192, 12288, 7, 7}, []uint64{0, 4096, 0, 12288, 4096, 7, 7}
	a, b, e := prp.Build(m, lists[:3], pages[:5], 0, 20000)
	if e != api.OK || !slices.Equal(lists, []uint64{4080, 8192, 12288, 7, 7}) || !slices.Equal(pages, []uint64{0, 4096, 0, 12288, 4096, 7, 7}) {
		t.Error(lists, pages, e)
	}
	clear(lists)
	clear(pages)
	yields(t, m, a, b, 20000, at(0, 4096), at(4096, 4096), at(0, 4096), at(12288, 4096), at(4096, 3616))
}

// P14.3: a transfer that is built at the place of another one replaces it, and one elsewhere does not affect it.
func TestBuildAgain(t *testing.T) {
	m := made(t, 4)
	builds(t, m, []uint64{4088, 4096}, []uint64{0, 4096, 8192}, 0, 9000)
	builds(t, m, []uint64{8192}, []uint64{8192, 4096, 0}, 8, 9000)
	yields(t, m, 0, 4088, 9000, at(0, 4096), at(4096, 4096), at(8192, 808))
	yields(t, m, 8200, 8192, 9000, at(8200, 4088), at(4096, 4096), at(0, 816))
	builds(t, m, []uint64{4088, 8192}, []uint64{0, 0, 0}, 0, 9000)
	yields(t, m, 0, 4088, 9000, at(0, 4096), at(0, 4096), at(0, 808))
	yields(t, m, 8200, 8192, 9000, at(8200, 4088), at(0, 4096), at(0, 816))
}
