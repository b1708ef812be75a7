package appender_test

import (
	"bytes"
	"testing"

	"capsule/api"
	"capsule/appender"
	"capsule/flash"
	"capsule/journal"
	"capsule/mapping"
	"capsule/spare"
)

// intact is an intact page of a device.
type intact struct {
	spare  api.Spare
	data   []byte
	number int // block times the pages per block plus the page
}

// intacts returns the intact pages of a device in order.
func intacts(d *flash.Device) []intact {
	var l []intact
	g := d.Geometry()
	for n := range g.Blocks * g.Pages {
		data, rest, e := d.Read(n/g.Pages, n%g.Pages)
		if e != api.OK {
			continue
		}
		if s, e := spare.Decode(rest, data); e == api.OK {
			l = append(l, intact{s, data, n})
		}
	}
	return l
}

// scan returns what is found on a device after a power cut (layer 11).
func scan(t *testing.T, d *flash.Device, sectors int) api.Found {
	t.Helper()
	g := d.Geometry()
	f := api.Found{Next: 1}
	var pages []api.JournalPage
	var blocks []int
	for _, p := range intacts(d) {
		f.Next = max(f.Next, p.spare.Sequence+1)
		if p.spare.Kind == api.SpareData {
			continue
		}
		l, e := journal.Decode(p.data)
		if e != api.OK {
			t.Fatalf("the data of a page of the journal: %v", e)
		}
		pages = append(pages, api.JournalPage{Spare: p.spare, Entries: l})
		blocks = append(blocks, p.number/g.Pages)
	}
	chain := journal.Follow(pages...)
	f.Last = chain.Last
	m, e := mapping.New(sectors, g.Blocks, g.Pages)
	if e != api.OK || m.Apply(chain.Entries...) != api.OK {
		t.Fatalf("the map does not accept %v", chain.Entries)
	}
	f.Entries = m.Entries()
	inChain := map[int]bool{}
	for _, i := range chain.Used {
		inChain[blocks[i]] = true
	}
	for block := range g.Blocks {
		switch {
		case inChain[block]:
			f.Journal = append(f.Journal, block)
		case d.Next(block) > 0:
			f.Dirty = append(f.Dirty, block)
		}
	}
	return f
}

// consistent fails the test unless the device describes exactly the current assignments, and every page in use contains its sector (P10.5). The contents are those that the sectors are to have; sectors that are not mapped have none.
func consistent(t *testing.T, a *appender.Appender, contents [][]byte) {
	t.Helper()
	d, found := a.Device(), map[int]intact{}
	for _, p := range intacts(d) {
		found[p.number] = p
	}
	f := scan(t, d, len(contents))
	assigns(t, a, f.Entries...)
	if a.Next() < f.Next || a.Next() <= f.Last {
		t.Errorf("Next %d, but the highest number is %d", a.Next(), f.Next-1)
	}
	mapped := map[int]bool{}
	for _, x := range a.Entries() {
		p := found[x.Page]
		if p.spare.Kind != api.SpareData || p.spare.Sector != x.Sector || !bytes.Equal(p.data, contents[x.Sector]) {
			t.Errorf("page %d of sector %d: %v", x.Page, x.Sector, p)
		}
		mapped[x.Sector] = true
	}
	for sector, want := range contents {
		if mapped[sector] != (len(want) > 0) {
			t.Errorf("sector %d: mapped %t", sector, mapped[sector])
		}
		if len(want) == 0 {
			want = make([]byte, d.Geometry().Size)
		}
		holds(t, a, sector, want)
	}
}

// changed returns the contents of sectors after a group.
func changed(contents [][]byte, l ...api.SectorWrite) [][]byte {
	after := append([][]byte{}, contents...)
	for _, w := range l {
		after[w.Sector] = w.Data
	}
	return after
}
