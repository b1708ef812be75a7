package journal_test

import (
	"maps"
	"math/rand/v2"
	"slices"
	"testing"

	"capsule/api"
	"capsule/journal"
)

// changes returns entries of a few sectors, some of which they remove.
func changes(n, seed int) []api.MapEntry {
	l := make([]api.MapEntry, n)
	for i := range l {
		l[i] = api.MapEntry{Sector: (i*i + seed) % 5, Page: seed*16 + i}
		if (i+seed)%4 == 3 {
			l[i].Page = -1
		}
	}
	return l
}

// history is what was written to a journal: pages with their data, and the assignments of all complete records.
type history struct {
	size     int
	pages    []api.JournalPage // those that may be found
	assigned map[int]int
	next     uint64 // higher than the numbers of all pages so far
	last     uint64 // the number of the last page of the last complete record
}

// apply assigns pages to sectors, or removes them.
func apply(assigned map[int]int, l ...api.MapEntry) {
	for _, m := range l {
		if m.Page < 0 {
			delete(assigned, m.Sector)
		} else {
			assigned[m.Sector] = m.Page
		}
	}
}

// write writes a record, but keeps of its pages only those that keep chooses. Some numbers may be left out before the record.
func (h *history) write(t *testing.T, k api.SpareKind, left uint64, keep func(index int) bool, l ...api.MapEntry) {
	t.Helper()
	first := h.next + left
	pages, e := journal.Record(k, h.size, first, h.last, l...)
	if e != api.OK {
		t.Fatal(e)
	}
	h.next = first + uint64(len(pages))
	complete := true
	for i, p := range pages {
		if keep(i) {
			h.pages = append(h.pages, stored(t, h.size, p))
		} else {
			complete = false
		}
	}
	if complete {
		apply(h.assigned, l...)
		h.last = h.next - 1
	}
}

// stored returns a page whose entries were encoded and decoded.
func stored(t *testing.T, size int, p api.JournalPage) api.JournalPage {
	t.Helper()
	b, e := journal.Encode(size, p.Entries...)
	if e != api.OK {
		t.Fatal(e)
	}
	l, e := journal.Decode(b)
	if e != api.OK || !slices.Equal(l, p.Entries) {
		t.Fatalf("%v, %v, not %v", l, e, p.Entries)
	}
	return api.JournalPage{Spare: p.Spare, Entries: l}
}

// entries returns the assignments as the entries of a checkpoint.
func (h *history) entries() []api.MapEntry {
	var l []api.MapEntry
	for _, sector := range slices.Sorted(maps.Keys(h.assigned)) {
		l = append(l, api.MapEntry{Sector: sector, Page: h.assigned[sector]})
	}
	return l
}

// erase removes some of the pages from before the last complete checkpoint.
func (h *history) erase(gone func() bool) {
	c := follow(h.pages)
	before := uint64(0)
	for _, at := range c.Used {
		if s := h.pages[at].Spare; s.Kind == api.SpareCheckpoint {
			before = s.Sequence - uint64(s.Index)
		}
	}
	h.pages = slices.DeleteFunc(h.pages, func(p api.JournalPage) bool { return p.Spare.Sequence < before && gone() })
}

// check fails the test unless the chain of the pages yields the assignments.
func (h *history) check(t *testing.T) {
	t.Helper()
	c := journal.Follow(h.pages...)
	found := map[int]int{}
	apply(found, c.Entries...)
	if !maps.Equal(found, h.assigned) || c.Last != h.last {
		t.Fatalf("%v: %v up to %d, not %v up to %d", h.pages, found, c.Last, h.assigned, h.last)
	}
}

// P8.5: random histories, with all of the records looked at after each of them, in random order.
func TestHistories(t *testing.T) {
	for seed := range uint64(400) {
		r := rand.New(rand.NewPCG(8, 100+seed))
		h := &history{size: 12 + r.IntN(30), assigned: map[int]int{}, next: 1 + r.Uint64N(4)*r.Uint64N(1<<40)}
		for range 40 {
			var l []api.MapEntry
			for range r.IntN(9) {
				l = append(l, api.MapEntry{Sector: r.IntN(12), Page: r.IntN(60) - 1})
			}
			k := delta
			if r.IntN(7) == 0 {
				k, l = checkpoint, h.entries()
			}
			chance := []int{0, 3, 100}[r.IntN(3)] // a page is kept always, often, or hardly ever
			h.write(t, k, r.Uint64N(3), func(int) bool { return r.IntN(chance+1) < 2 || chance == 0 }, l...)
			if r.IntN(3) == 0 {
				h.erase(func() bool { return r.IntN(3) == 0 })
			}
			r.Shuffle(len(h.pages), func(i, j int) { h.pages[i], h.pages[j] = h.pages[j], h.pages[i] })
			h.check(t)
		}
	}
}

// P8.5: every choice of the pages that are missing in an incomplete record, before, between and behind complete ones.
func TestIncompleteRecords(t *testing.T) {
	all := func(int) bool { return true }
	for _, k := range kinds {
		for missing := 1; missing < 16; missing++ {
			some := func(index int) bool { return missing>>index&1 == 0 }
			for at := range 4 {
				h := &history{size: 20, assigned: map[int]int{}, next: 1}
				for i := range 4 {
					if i == at {
						h.write(t, k, 0, some, changes(8, 50)...)
						h.check(t)
					}
					if i == 2 {
						h.write(t, checkpoint, 0, all, h.entries()...)
					} else {
						h.write(t, delta, 0, all, changes(3+i, i)...)
					}
					h.check(t)
				}
				slices.Reverse(h.pages)
				h.check(t)
			}
		}
	}
}

// P8.5: every choice of the pages from before the last complete checkpoint that have been erased.
func TestErasedPages(t *testing.T) {
	all := func(int) bool { return true }
	h := &history{size: 12, assigned: map[int]int{}, next: 1}
	h.write(t, delta, 0, all, changes(3, 1)...)
	h.write(t, checkpoint, 0, all, h.entries()...)
	h.write(t, delta, 2, func(index int) bool { return index != 1 }, changes(3, 2)...)
	h.write(t, delta, 0, all, changes(4, 3)...)
	old := len(h.pages)
	h.write(t, checkpoint, 0, all, h.entries()...)
	h.write(t, delta, 0, all, api.MapEntry{Sector: 9, Page: 5}, api.MapEntry{Sector: 3, Page: -1})
	h.write(t, delta, 1, all, api.MapEntry{Sector: 9, Page: 6})
	h.write(t, checkpoint, 0, func(index int) bool { return index > 0 }, h.entries()...)
	pages := h.pages
	if old != 11 {
		t.Fatalf("%d pages before the last complete checkpoint", old)
	}
	for gone := range 1 << old {
		h.pages = nil
		for i, p := range pages {
			if i >= old || gone>>i&1 == 0 {
				h.pages = append(h.pages, p)
			}
		}
		h.check(t)
		slices.Reverse(h.pages)
		h.check(t)
	}
}

// P8.5: every order of the pages of a history.
func TestOrders(t *testing.T) {
	all := func(int) bool { return true }
	h := &history{size: 12, assigned: map[int]int{}, next: 1}
	h.write(t, delta, 0, all, api.MapEntry{Sector: 1, Page: 5}, api.MapEntry{Sector: 2, Page: 6})
	h.write(t, checkpoint, 0, all, h.entries()...)
	h.write(t, delta, 0, func(index int) bool { return index == 0 }, api.MapEntry{Sector: 1, Page: 8}, api.MapEntry{Sector: 2, Page: 9})
	h.write(t, delta, 0, all, api.MapEntry{Sector: 1, Page: -1})
	h.write(t, delta, 0, all, api.MapEntry{Sector: 2, Page: 7})
	var order func(n int)
	order = func(n int) {
		if n == len(h.pages) {
			h.check(t)
		}
		for i := n; i < len(h.pages); i++ {
			h.pages[n], h.pages[i] = h.pages[i], h.pages[n]
			order(n + 1)
			h.pages[n], h.pages[i] = h.pages[i], h.pages[n]
		}
	}
	order(0)
}
