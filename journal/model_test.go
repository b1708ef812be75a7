package journal_test

import (
	"math"
	"math/bits"
	"math/rand/v2"
	"slices"
	"testing"

	"capsule/api"
	"capsule/journal"
)

// page returns a page of a journal, valid or not.
func page(k api.SpareKind, sequence, prev uint64, index, length int, l ...api.MapEntry) api.JournalPage {
	return api.JournalPage{Spare: api.Spare{Kind: k, Sequence: sequence, Prev: prev, Index: index, Length: length}, Entries: l}
}

// describes is layer 5's definition of a valid description, for pages of records, with a sum that does not overflow.
func describes(s api.Spare) bool {
	if s.Kind != api.SpareDelta && s.Kind != api.SpareCheckpoint {
		return false
	}
	if s.Sequence == 0 || s.Length < 1 || s.Length > 65535 || s.Index < 0 || s.Index >= s.Length || s.Sector != 0 {
		return false
	}
	sum, carry := bits.Add64(s.Prev, uint64(s.Index), 0)
	return carry == 0 && sum < s.Sequence
}

// together reports whether two pages belong to the same record.
func together(a, b api.Spare) bool {
	return a.Kind == b.Kind && a.Prev == b.Prev && a.Length == b.Length && a.Sequence-uint64(a.Index) == b.Sequence-uint64(b.Index)
}

// whole returns the places of the pages of the record of the page at some place, by index, if it is complete.
func whole(l []api.JournalPage, at int) []int {
	var places []int
	for index := range l[at].Spare.Length {
		found := slices.IndexFunc(l, func(p api.JournalPage) bool {
			return describes(p.Spare) && together(p.Spare, l[at].Spare) && p.Spare.Index == index
		})
		if found < 0 {
			return nil
		}
		places = append(places, found)
	}
	return places
}

// highest returns the places of the complete record of this kind, and with this Prev for a delta, that is taken. Going through the list from its front, it takes another record only for a higher first number.
func highest(l []api.JournalPage, k api.SpareKind, prev uint64) []int {
	var best []int
	var first uint64
	for at, p := range l {
		if !describes(p.Spare) || p.Spare.Kind != k || k == api.SpareDelta && p.Spare.Prev != prev {
			continue
		}
		if n := p.Spare.Sequence - uint64(p.Spare.Index); n > first {
			if places := whole(l, at); places != nil {
				best, first = places, n
			}
		}
	}
	return best
}

// follow is the chapter's definition of the chain.
func follow(l []api.JournalPage) api.Chain {
	var c api.Chain
	places := highest(l, api.SpareCheckpoint, 0)
	if places == nil {
		places = highest(l, api.SpareDelta, 0)
	}
	for places != nil {
		for _, at := range places {
			c.Entries = append(c.Entries, l[at].Entries...)
			c.Used = append(c.Used, at)
			c.Last = l[at].Spare.Sequence
		}
		places = highest(l, api.SpareDelta, c.Last)
	}
	slices.Sort(c.Used)
	return c
}

// equal reports whether two chains are the same.
func equal(a, b api.Chain) bool {
	return a.Last == b.Last && slices.Equal(a.Entries, b.Entries) && slices.Equal(a.Used, b.Used)
}

// follows fails the test unless Follow returns the chain of the model.
func follows(t *testing.T, l ...api.JournalPage) {
	t.Helper()
	if c, want := journal.Follow(l...), follow(l); !equal(c, want) {
		t.Fatalf("Follow(%v): %v, not %v", l, c, want)
	}
}

// marked gives each page an entry with its place in the list as its page, so that the chain shows which pages it consists of.
func marked(l ...api.JournalPage) []api.JournalPage {
	l = slices.Clone(l)
	for i := range l {
		l[i].Entries = []api.MapEntry{{Sector: i % 3, Page: i}}
	}
	return l
}

// smallPages returns all descriptions of pages with numbers up to 4 and up to two pages per record.
func smallPages() []api.JournalPage {
	var l []api.JournalPage
	for _, k := range kinds {
		for sequence := range uint64(4) {
			for prev := range sequence + 1 {
				for length := 1; length <= 2; length++ {
					for index := range length {
						l = append(l, page(k, sequence+1, prev, index, length))
					}
				}
			}
		}
	}
	return l
}

// P8.4: all lists of up to three pages with small numbers.
func TestFollowSmallLists(t *testing.T) {
	small := smallPages()
	for _, a := range small {
		follows(t, marked(a)...)
		for _, b := range small {
			follows(t, marked(a, b)...)
			for _, c := range small {
				follows(t, marked(a, b, c)...)
			}
		}
	}
}

// P8.4: longer lists of random pages with small numbers, in which records are often complete and often have pages with the same index.
func TestFollowRandomLists(t *testing.T) {
	r := rand.New(rand.NewPCG(8, 3))
	for range 30000 {
		l := make([]api.JournalPage, r.IntN(24))
		for i := range l {
			length := 1 + r.IntN(3)
			index := r.IntN(length)
			prev := r.Uint64N(8)
			k := api.SpareDelta
			if r.IntN(8) == 0 {
				k = api.SpareCheckpoint
			}
			l[i] = page(k, prev+uint64(index)+1+r.Uint64N(3), prev, index, length)
		}
		follows(t, marked(l...)...)
	}
}

// P8.4: complete records in random order, among them several with the same numbers, and pages that are missing or there twice.
func TestFollowRandomRecords(t *testing.T) {
	r := rand.New(rand.NewPCG(8, 4))
	for range 6000 {
		var l []api.JournalPage
		ends := []uint64{0}
		for range 1 + r.IntN(12) {
			prev := ends[r.IntN(len(ends))]
			k := kinds[max(0, r.IntN(6)-4)]
			pages, e := journal.Record(k, 20, prev+1+r.Uint64N(3), prev, numbered(r.IntN(9), len(l))...)
			if e != api.OK {
				t.Fatal(e)
			}
			ends = append(ends, pages[len(pages)-1].Spare.Sequence)
			l = append(l, pages...)
		}
		r.Shuffle(len(l), func(i, j int) { l[i], l[j] = l[j], l[i] })
		if r.IntN(2) == 0 {
			l = slices.Delete(l, 0, r.IntN(2)*len(l)/8)
		}
		for range r.IntN(4) {
			if len(l) > 0 {
				again := l[r.IntN(len(l))]
				again.Entries = numbered(1, 99)
				l = slices.Insert(l, r.IntN(len(l)+1), again)
			}
		}
		follows(t, l...)
	}
}

// P8.4, P1: pages whose fields are at, next to and beyond all limits, alone and with others.
func TestFollowLimits(t *testing.T) {
	numbers := []uint64{0, 1, 2, 1 << 32, 1 << 63, 1<<63 + 1, math.MaxUint64 - 1, math.MaxUint64}
	places := []int{math.MinInt, -1, 0, 1, 2, 65533, 65534, 65535, 65536, math.MaxUint32, math.MaxInt}
	var all []api.JournalPage
	for _, k := range []api.SpareKind{0, 1, 2, 3, 4, 128, 255} {
		for _, sequence := range numbers {
			for _, prev := range numbers {
				for _, index := range places {
					for _, length := range places {
						p := page(k, sequence, prev, index, length)
						all = append(all, p)
						follows(t, marked(p)...)
					}
				}
			}
		}
	}
	r := rand.New(rand.NewPCG(8, 5))
	for range 3000 {
		var l []api.JournalPage
		for range r.IntN(30) {
			l = append(l, all[r.IntN(len(all))])
		}
		l = slices.DeleteFunc(l, func(p api.JournalPage) bool { return describes(p.Spare) && p.Spare.Length > 2 && r.IntN(3) > 0 })
		follows(t, marked(l...)...)
	}
	follows(t, marked(all...)...)
}
