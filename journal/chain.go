package journal

import (
	"cmp"
	"slices"

	"capsule/api"
)

// record is what the pages of a record have in common.
type record struct {
	kind        api.SpareKind
	first, prev uint64
	length      int
}

// last returns the number of the last page. It is meant for a complete record: that page shows that the number does not overflow.
func (r record) last() uint64 {
	return r.first + uint64(r.length-1)
}

// located is a complete record with the places of its pages in a list.
type located struct {
	record
	earliest int
	places   []int // by index of the page
}

// Follow returns the chain of a list of pages.
func Follow(l ...api.JournalPage) api.Chain {
	var c api.Chain
	records := locate(l)
	take := func(r located) {
		for _, place := range r.places {
			c.Entries = append(c.Entries, l[place].Entries...)
		}
		c.Used = append(c.Used, r.places...)
		c.Last = r.last()
	}
	checkpoints := those(records, func(r located) bool { return r.kind == api.SpareCheckpoint })
	if len(checkpoints) > 0 {
		take(slices.MinFunc(checkpoints, newer))
	}
	deltas := those(records, func(r located) bool { return r.kind == api.SpareDelta })
	slices.SortFunc(deltas, inTurn)
	// The numbers along the chain increase, so that one pass finds it.
chain:
	for _, r := range deltas {
		if r.prev > c.Last {
			break chain
		}
		if r.prev == c.Last {
			take(r)
		}
	}
	slices.Sort(c.Used)
	return c
}

// newer orders records by falling first numbers, and those with the same one by their earliest pages.
func newer(a, b located) int {
	return cmp.Or(cmp.Compare(b.first, a.first), cmp.Compare(a.earliest, b.earliest))
}

// inTurn orders records by the ones that they follow, and those that follow the same one by the order in which they are preferred.
func inTurn(a, b located) int {
	return cmp.Or(cmp.Compare(a.prev, b.prev), newer(a, b))
}

func those[T any](l []T, fits func(T) bool) []T {
	var chosen []T
	for _, item := range l {
		if fits(item) {
			chosen = append(chosen, item)
		}
	}
	return chosen
}

// locate returns the complete records of a list of pages, in any order.
func locate(l []api.JournalPage) []located {
	places := map[record][]int{}
	for i, page := range l {
		if isJournal(page.Spare) {
			r := recordOf(page.Spare)
			places[r] = append(places[r], i)
		}
	}
	var records []located
	for r, at := range places {
		ordered := byIndex(at, l)
		if len(ordered) == r.length {
			records = append(records, located{record: r, earliest: at[0], places: ordered})
		}
	}
	return records
}

// isJournal reports whether a description is valid and not one of data. It subtracts, because the sum of Prev and Index may overflow.
func isJournal(s api.Spare) bool {
	return isKind(s.Kind) && s.Sector == 0 &&
		within(s.Length, 1, api.MaxRecord) && within(s.Index, 0, s.Length-1) &&
		s.Prev < s.Sequence && uint64(s.Index) < s.Sequence-s.Prev
}

func recordOf(s api.Spare) record {
	return record{kind: s.Kind, first: s.Sequence - uint64(s.Index), prev: s.Prev, length: s.Length}
}

// byIndex returns places of pages of one record in the order of their indices, the first one of each index.
func byIndex(places []int, l []api.JournalPage) []int {
	index := func(place int) int { return l[place].Spare.Index }
	ordered := slices.Clone(places)
	slices.SortStableFunc(ordered, func(a, b int) int { return cmp.Compare(index(a), index(b)) })
	return slices.CompactFunc(ordered, func(a, b int) bool { return index(a) == index(b) })
}
