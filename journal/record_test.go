package journal_test

import (
	"bytes"
	"math"
	"slices"
	"testing"

	"capsule/api"
	"capsule/journal"
)

// kinds are the kinds of records.
var kinds = []api.SpareKind{api.SpareDelta, api.SpareCheckpoint}

// records fails the test unless Record returns the pages that the chapter describes. It returns them.
func records(t *testing.T, k api.SpareKind, size int, first, prev uint64, l ...api.MapEntry) []api.JournalPage {
	t.Helper()
	pages, e := journal.Record(k, size, first, prev, l...)
	length := journal.Pages(size, len(l))
	if e != api.OK || len(pages) != length || length < 1 {
		t.Fatalf("Record(%d, %d, %d, %d) of %d entries: %d pages, %v", k, size, first, prev, len(l), len(pages), e)
	}
	for i, p := range pages {
		want := api.Spare{Kind: k, Sequence: first + uint64(i), Prev: prev, Index: i, Length: length}
		if p.Spare != want || !describes(p.Spare) {
			t.Errorf("page %d of %d: %v, not %v", i, length, p.Spare, want)
		}
		n := room(size)
		if i == length-1 {
			n = len(l) - i*n
		}
		from := i * room(size)
		if !slices.Equal(p.Entries, l[from:from+n]) {
			t.Errorf("page %d of %d: %d entries %v, not %d %v", i, length, len(p.Entries), few(p.Entries), n, few(l[from:from+n]))
		}
		if b, e := journal.Encode(size, p.Entries...); e != api.OK || !bytes.Equal(b, data(size, l[from:from+n]...)) {
			t.Errorf("page %d of %d: the data %.40x, %v", i, length, b, e)
		}
	}
	return pages
}

// cannotRecord fails the test unless Record returns this error and nothing else.
func cannotRecord(t *testing.T, want api.Errno, k api.SpareKind, size int, first, prev uint64, l ...api.MapEntry) {
	t.Helper()
	if pages, e := journal.Record(k, size, first, prev, l...); len(pages) != 0 || e != want {
		t.Errorf("Record(%d, %d, %d, %d) of %d entries: %d pages, %v, not %v", k, size, first, prev, len(l), len(pages), e, want)
	}
}

// P8.3: records with no entry, with entries that fill pages exactly, with one more and one fewer. Their pages are a complete record.
func TestRecord(t *testing.T) {
	for _, k := range kinds {
		for _, size := range []int{12, 13, 19, 20, 28, 44, 100, 4160, 8192} {
			for _, n := range []int{1, 2, 3, 10} {
				for _, entries := range []int{0, 1, n*room(size) - 1, n * room(size), n*room(size) + 1} {
					l := numbered(entries, n)
					pages := records(t, k, size, 1000, 0, l...)
					if c := journal.Follow(pages...); c.Last != 999+uint64(len(pages)) || !slices.Equal(c.Entries, l) || len(c.Used) != len(pages) {
						t.Errorf("the chain of %d pages: last %d, %d entries, %d used", len(pages), c.Last, len(c.Entries), len(c.Used))
					}
				}
			}
		}
	}
}

// P8.3: all small numbers of entries.
func TestRecordSmall(t *testing.T) {
	for _, k := range kinds {
		for size := 12; size <= 60; size++ {
			for n := range 20 {
				records(t, k, size, uint64(size), uint64(n%size), numbered(n, size)...)
			}
		}
	}
}

// P8.3: kinds that are not allowed, with everything else valid.
func TestRecordKinds(t *testing.T) {
	for k := range 256 {
		if kind := api.SpareKind(k); kind == api.SpareDelta || kind == api.SpareCheckpoint {
			records(t, kind, 28, 5, 4, numbered(2, 1)...)
		} else {
			cannotRecord(t, api.ErrArg, kind, 28, 5, 4, numbered(2, 1)...)
			cannotRecord(t, api.ErrArg, kind, 28, 5, 4)
		}
	}
}

// P8.3: first and prev at, next to and beyond their limits.
func TestRecordNumbers(t *testing.T) {
	numbers := []uint64{0, 1, 2, 3, 65535, 1 << 32, 1<<63 - 2, 1<<63 - 1, 1 << 63, 1<<63 + 1, math.MaxUint64 - 1, math.MaxUint64}
	for _, k := range kinds {
		for _, first := range numbers {
			for _, prev := range numbers {
				if first >= 1 && first <= 1<<63 && prev < first {
					records(t, k, 12, first, prev, numbered(3, 1)...)
				} else {
					cannotRecord(t, api.ErrArg, k, 12, first, prev, numbered(3, 1)...)
					cannotRecord(t, api.ErrArg, k, 12, first, prev)
				}
			}
		}
	}
}

// P8.3: sizes without a capacity, and entries that are not valid, at each place.
func TestRecordWrongArguments(t *testing.T) {
	for _, k := range kinds {
		for _, size := range []int{math.MinInt, -12, -1, 0, 4, 11, 8193, 1<<32 + 12, math.MaxInt} {
			cannotRecord(t, api.ErrArg, k, size, 5, 4)
			cannotRecord(t, api.ErrArg, k, size, 5, 4, numbered(3, 1)...)
		}
		for _, wrong := range wrongEntries() {
			for i := range 7 {
				l := numbered(7, 2)
				l[i] = wrong
				cannotRecord(t, api.ErrArg, k, 28, 5, 4, l...)
			}
		}
	}
	for _, sector := range []int{0, topSector} {
		for _, p := range []int{-1, 0, topPage} {
			m := api.MapEntry{Sector: sector, Page: p}
			records(t, api.SpareDelta, 20, 5, 4, m, m, m)
		}
	}
}

// P8.3: as many pages as a record may have, and one more; with the highest first number the last page is beyond it.
func TestRecordLength(t *testing.T) {
	l := numbered(3*65535+1, 0)
	records(t, api.SpareCheckpoint, 12, 1, 0, l[:65535]...)
	records(t, api.SpareDelta, 12, 1<<63, 1<<63-1, l[:65535]...)
	records(t, api.SpareDelta, 28, 9, 0, l[:3*65535]...)
	records(t, api.SpareDelta, 28, 9, 0, l[:3*65535-3]...)
	cannotRecord(t, api.ErrLong, api.SpareCheckpoint, 12, 1, 0, l[:65536]...)
	cannotRecord(t, api.ErrLong, api.SpareDelta, 12, 1<<63, 1<<63-1, l...)
	cannotRecord(t, api.ErrLong, api.SpareDelta, 28, 9, 0, l...)
	records(t, api.SpareDelta, 36, 9, 0, l...)
}

// P8.3: whatever else is wrong comes before too many pages.
func TestRecordErrorOrder(t *testing.T) {
	l := numbered(65536, 0)
	cannotRecord(t, api.ErrLong, api.SpareDelta, 12, 5, 4, l...)
	cannotRecord(t, api.ErrArg, api.SpareData, 12, 5, 4, l...)
	cannotRecord(t, api.ErrArg, api.SpareNone, 12, 5, 4, l...)
	cannotRecord(t, api.ErrArg, api.SpareDelta, 11, 5, 4, l...)
	cannotRecord(t, api.ErrArg, api.SpareDelta, 12, 0, 0, l...)
	cannotRecord(t, api.ErrArg, api.SpareDelta, 12, 1<<63+1, 4, l...)
	cannotRecord(t, api.ErrArg, api.SpareDelta, 12, 5, 5, l...)
	for _, i := range []int{0, 30000, 65535} {
		m := slices.Clone(l)
		m[i].Page = -2
		cannotRecord(t, api.ErrArg, api.SpareDelta, 12, 5, 4, m...)
	}
}
