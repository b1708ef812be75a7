package ftl

import (
	"bytes"
	"slices"

	"capsule/api"
)

// group is a number of changes that take effect together: sectors that are written, or ones that are trimmed. It does not change.
type group struct {
	writes  []api.SectorWrite
	trimmed api.Extent
}

// written returns the group that writes sectors. It has data of its own: it may wait for longer than the caller leaves his as they are.
func written(l ...api.SectorWrite) group {
	writes := slices.Clone(l)
	for i, w := range l {
		writes[i].Data = bytes.Clone(w.Data)
	}
	return group{writes: writes}
}

// trimmed returns the group that trims sectors.
func trimmed(first, n int) group {
	return group{trimmed: api.Extent{First: first, Len: n}}
}

// changes returns the changes of a group as layer 10 wants them.
func (g group) changes() []api.SectorWrite {
	l := slices.Clone(g.writes)
	for i := range g.trimmed.Len {
		l = append(l, api.SectorWrite{Sector: g.trimmed.First + i})
	}
	return l
}

// at returns the contents that a group gives to a sector, and whether it changes it; a trimmed sector has none.
func (g group) at(sector int) (data []byte, changed bool) {
	for _, w := range g.writes {
		if w.Sector == sector {
			return w.Data, true
		}
	}
	return nil, within(sector-g.trimmed.First, 0, g.trimmed.Len-1)
}

// last returns what is found in the last item in which something is found.
func last[T, U any](l []T, find func(T) (U, bool)) (result U, found bool) {
	for i := len(l) - 1; i >= 0; i-- {
		if result, found = find(l[i]); found {
			return result, true
		}
	}
	return result, false
}
