package journal_test

import (
	"bytes"
	"slices"
	"testing"

	"capsule/api"
	"capsule/journal"
)

// spoil changes all entries, also those behind the last one for which there is memory.
func spoil(l []api.MapEntry) {
	l = l[:cap(l)]
	for i := range l {
		l[i] = api.MapEntry{Sector: 77, Page: 88}
	}
}

// P8.2: Encode does not change its arguments, and its result is not shared.
func TestEncodeShares(t *testing.T) {
	l := numbered(3, 1)
	b, _ := journal.Encode(40, l...)
	if !slices.Equal(l, numbered(3, 1)) {
		t.Errorf("Encode has changed its entries: %v", l)
	}
	spoil(l)
	if !bytes.Equal(b, data(40, numbered(3, 1)...)) {
		t.Errorf("the bytes depend on the entries: %x", b)
	}
	again, _ := journal.Encode(40, numbered(3, 1)...)
	clear(b)
	encodes(t, 40, numbered(3, 1)...)
	if !bytes.Equal(again, data(40, numbered(3, 1)...)) {
		t.Errorf("two results share bytes: %x", again)
	}
}

// P8.2: Decode does not change its bytes, and its result does not depend on them afterwards.
func TestDecodeShares(t *testing.T) {
	b := data(40, numbered(3, 1)...)
	l, _ := journal.Decode(b)
	again, _ := journal.Decode(b)
	if !bytes.Equal(b, data(40, numbered(3, 1)...)) {
		t.Errorf("Decode has changed its bytes: %x", b)
	}
	clear(b)
	if !slices.Equal(l, numbered(3, 1)) {
		t.Errorf("the entries depend on the bytes: %v", l)
	}
	spoil(l)
	if !slices.Equal(again, numbered(3, 1)) {
		t.Errorf("two results share entries: %v", again)
	}
}

// P8.3: Record does not change its entries; its pages do not depend on them afterwards, nor on each other.
func TestRecordShares(t *testing.T) {
	l := numbered(8, 1)
	pages, _ := journal.Record(api.SpareDelta, 28, 5, 4, l...)
	again, _ := journal.Record(api.SpareDelta, 28, 5, 4, l...)
	if !slices.Equal(l, numbered(8, 1)) {
		t.Errorf("Record has changed its entries: %v", l)
	}
	spoil(l)
	for i := range pages {
		from, to := 3*i, min(3*i+3, 8)
		if want := numbered(8, 1)[from:to]; !slices.Equal(pages[i].Entries, want) {
			t.Errorf("page %d: %v, not %v", i, pages[i].Entries, want)
		}
		spoil(pages[i].Entries)
		pages[i].Spare = api.Spare{}
		if want := numbered(8, 1)[from:to]; !slices.Equal(again[i].Entries, want) || again[i].Spare.Index != i || again[i].Spare.Length != 3 {
			t.Errorf("page %d of another result: %v, not %v", i, again[i], want)
		}
	}
}

// P8.4: Follow does not change its pages; the chain does not depend on them afterwards, nor on other results.
func TestFollowShares(t *testing.T) {
	for _, backwards := range []bool{false, true} {
		l, kept := records(t, api.SpareDelta, 28, 5, 0, numbered(8, 1)...), records(t, api.SpareDelta, 28, 5, 0, numbered(8, 1)...)
		if backwards {
			slices.Reverse(l)
			slices.Reverse(kept)
		}
		c, again := journal.Follow(l...), journal.Follow(l...)
		for i, p := range l {
			if p.Spare != kept[i].Spare || !slices.Equal(p.Entries, kept[i].Entries) {
				t.Errorf("Follow has changed page %d: %v", i, p)
			}
			spoil(p.Entries)
			l[i].Spare = api.Spare{}
		}
		want := api.Chain{Entries: numbered(8, 1), Last: 7, Used: []int{0, 1, 2}}
		if !equal(c, want) {
			t.Errorf("the chain depends on the pages: %v", c)
		}
		spoil(c.Entries)
		clear(c.Used)
		if !equal(again, want) || !equal(journal.Follow(kept...), want) {
			t.Errorf("two results share memory: %v", again)
		}
	}
}

// P8.4: the chain of one page shares no entries with it, although they are all of the chain's entries.
func TestFollowSharesOnePage(t *testing.T) {
	l := append(make([]api.MapEntry, 0, 9), numbered(3, 1)...)
	c := journal.Follow(page(api.SpareCheckpoint, 2, 1, 0, 1, l...))
	spoil(c.Entries)
	if !slices.Equal(l, numbered(3, 1)) || !slices.Equal(l[:9][3:], make([]api.MapEntry, 6)) {
		t.Errorf("the page has changed: %v", l[:9])
	}
	c = journal.Follow(page(api.SpareCheckpoint, 2, 1, 0, 1, l...))
	spoil(l)
	if !slices.Equal(c.Entries, numbered(3, 1)) {
		t.Errorf("the chain has changed: %v", c.Entries)
	}
}

// P8.2 to P8.4: nil and empty lists are the same.
func TestEmptyLists(t *testing.T) {
	for _, l := range [][]api.MapEntry{nil, {}} {
		encodes(t, 12, l...)
		pages := records(t, api.SpareCheckpoint, 12, 3, 2, l...)
		if c := journal.Follow(pages...); !equal(c, api.Chain{Last: 3, Used: []int{0}}) {
			t.Errorf("%v", c)
		}
		if c := journal.Follow(page(api.SpareDelta, 1, 0, 0, 1, l...)); !equal(c, api.Chain{Last: 1, Used: []int{0}}) {
			t.Errorf("%v", c)
		}
	}
	if c := journal.Follow([]api.JournalPage{}...); !equal(c, api.Chain{}) {
		t.Errorf("%v", c)
	}
}
