package prp_test

import (
	"math"
	"testing"

	"capsule/prp"
)

// bases are starts of pages: the first ones, one beyond every memory, and the last one.
var bases = []uint64{0, 4096, farAway, 1 << 63, math.MaxUint64 - 4095}

// P14.1: the chapter's examples and its number.
func TestCountExamples(t *testing.T) {
	if prp.MaxTransfer != 1<<20 {
		t.Error(prp.MaxTransfer)
	}
	for _, c := range []struct {
		first   uint64
		n, want int
	}{{0, 4096, 1}, {4, 4096, 2}, {4092, 4, 1}, {0, 0, 0}, {0, mostBytes, 256}, {4, mostBytes, 257}, {4095, mostBytes, 257}, {4095, 1, 1}, {4095, 2, 2}, {math.MaxUint64, 1, 1}, {math.MaxUint64, 2, 2}, {math.MaxUint64 - 4095, 4096, 1}} {
		if got := prp.Count(c.first, c.n); got != c.want {
			t.Errorf("Count(%d, %d): %d, not %d", c.first, c.n, got, c.want)
		}
	}
}

// P14.1: numbers of bytes that no transfer with pages has, at each place of a page.
func TestCountNone(t *testing.T) {
	for _, base := range bases {
		for place := range uint64(pageBytes) {
			for _, n := range []int{math.MinInt, math.MinInt32, -mostBytes, -4096, -1, 0, mostBytes + 1, mostBytes + 4096, math.MaxInt32, math.MaxInt - 4095, math.MaxInt} {
				if got := prp.Count(base+place, n); got != 0 {
					t.Fatalf("Count(%d, %d): %d", base+place, n, got)
				}
			}
		}
	}
}

// P14.1: numbers of bytes up to a page's end, one less and one more, and the largest ones, at each place of a page.
func TestCountPlaces(t *testing.T) {
	for _, base := range bases {
		for place := range pageBytes {
			rest := pageBytes - place
			for _, n := range []int{1, 2, rest - 1, rest, rest + 1, rest + 4095, rest + 4096, rest + 4097, rest + 254*4096, rest + 254*4096 + 1, mostBytes - 1, mostBytes} {
				first := base + uint64(place)
				if got, want := prp.Count(first, n), plainCount(first, n); got != want {
					t.Fatalf("Count(%d, %d): %d, not %d", first, n, got, want)
				}
			}
		}
	}
}

// P14.1: all numbers of bytes, at a few places: the number of pages is one more whenever a page is full.
func TestCountLengths(t *testing.T) {
	for _, place := range []int{0, 1, 4, 2048, 4092, 4095} {
		want := 0
		for n := 1; n <= mostBytes; n++ {
			if n == 1 || (place+n-1)%pageBytes == 0 {
				want++
			}
			if got := prp.Count(uint64(8192+place), n); got != want {
				t.Fatalf("Count(%d, %d): %d, not %d", 8192+place, n, got, want)
			}
		}
	}
}

// P14.1: the chapter's example, and lists that just fit and just do not fit.
func TestListsExamples(t *testing.T) {
	for _, c := range []struct {
		second      uint64
		pages, want int
	}{
		{12280, 4, 2}, {12280, 3, 2}, {12272, 3, 1}, {12272, 4, 2}, {12264, 4, 1}, {0, 3, 1}, {8192, 257, 1},
		{4096 - 8*256, 257, 1}, {4096 - 8*255, 257, 2}, {4096 - 8*255, 256, 1}, {4088, 257, 2},
		{12281, 3, 2}, {12287, 3, 2}, {12279, 3, 1}, {12273, 3, 1}, {12273, 4, 2}, {12271, 4, 1}, {12265, 4, 1},
		{math.MaxUint64, 3, 2}, {math.MaxUint64 - 7, 257, 2}, {math.MaxUint64 - 15, 3, 1}, {math.MaxUint64 - 4095, 257, 1},
	} {
		if got := prp.Lists(c.second, c.pages); got != c.want {
			t.Errorf("Lists(%d, %d): %d, not %d", c.second, c.pages, got, c.want)
		}
	}
}

// P14.1: numbers of pages with which no list is read, at each place of a page.
func TestListsNone(t *testing.T) {
	for _, base := range bases {
		for place := range uint64(pageBytes) {
			for _, pages := range []int{math.MinInt, math.MinInt + 1, math.MinInt32, -257, -3, -2, -1, 0, 1, 2, 258, 259, 512, 513, 514, 4096, math.MaxInt32, math.MaxInt - 1, math.MaxInt} {
				if got := prp.Lists(base+place, pages); got != 0 {
					t.Fatalf("Lists(%d, %d): %d", base+place, pages, got)
				}
			}
		}
	}
}

// P14.1: all numbers of pages, at each place of a page.
func TestLists(t *testing.T) {
	for place := range uint64(pageBytes) {
		second := bases[place%5] + place
		for pages := -2; pages <= 260; pages++ {
			if got, want := prp.Lists(second, pages), plainLists(second, pages); got != want {
				t.Fatalf("Lists(%d, %d): %d, not %d", second, pages, got, want)
			}
		}
	}
}
