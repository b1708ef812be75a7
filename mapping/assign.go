package mapping

import (
	"cmp"
	"iter"
	"maps"
	"slices"

	"capsule/api"
)

// content returns what a map contains; a nil map contains nothing.
func (m *Map) content() Map {
	if m == nil {
		return Map{}
	}
	return *m
}

func (m *Map) missing() bool {
	return m.Sectors() == 0
}

// entry returns the entry that assigns to a sector what it has.
func (m *Map) entry(sector int) api.MapEntry {
	page, mapped := m.At(sector)
	if !mapped {
		page = none
	}
	return api.MapEntry{Sector: sector, Page: page}
}

// require raises the error of an entry that cannot be applied.
func (m *Map) require(entry api.MapEntry) {
	if !m.hasSector(entry.Sector) || entry.Page != none && !m.hasPage(entry.Page) {
		panic(api.ErrRange)
	}
	if sector, used := m.Sector(entry.Page); used && sector != entry.Sector {
		panic(api.ErrBusy)
	}
}

// assign applies an entry that can be applied.
func (m *Map) assign(entry api.MapEntry) {
	if page, mapped := m.pageOf[entry.Sector]; mapped {
		delete(m.pageOf, entry.Sector)
		delete(m.sectorIn, page)
		m.used[m.blockOf(page)]--
	}
	if entry.Page == none {
		return
	}
	m.pageOf[entry.Sector] = entry.Page
	m.sectorIn[entry.Page] = entry.Sector
	m.used[m.blockOf(entry.Page)]++
}

// restore puts back what entries have replaced. It goes backwards, because a page may have been given from one sector to another.
func (m *Map) restore(former ...api.MapEntry) {
	for _, entry := range slices.Backward(former) {
		m.assign(entry)
	}
}

func sortedKeys[K cmp.Ordered, V any](m map[K]V) []K {
	return slices.Sorted(maps.Keys(m))
}

// inOrder returns an iterator over those of the keys that are assigned, each with its value. It looks them up at once, since the map may change before the iterator is used.
func inOrder(keys []int, assigned map[int]int) iter.Seq2[int, int] {
	var pairs [][2]int
	for _, key := range keys {
		if value, found := assigned[key]; found {
			pairs = append(pairs, [2]int{key, value})
		}
	}
	return func(yield func(int, int) bool) {
	pairs:
		for _, pair := range pairs {
			if !yield(pair[0], pair[1]) {
				break pairs
			}
		}
	}
}
