package appender

import (
	"cmp"
	"maps"
	"slices"

	"capsule/api"
	"capsule/journal"
	"capsule/spare"
)

const (
	// maxFirst is the highest number of the first page of a record (layer 8).
	maxFirst = 1 << 63
	// none is the page of an entry that assigns no page.
	none = -1
)

// commit writes a group of changes, each of which needs an entry, and applies the entries.
func (c *core) commit(group ...api.SectorWrite) {
	if len(group) == 0 {
		return
	}
	c.requireRecord(written(group...), len(group))
	entries := make([]api.MapEntry, len(group))
	for i, w := range group {
		entries[i] = c.store(w)
	}
	c.record(api.SpareDelta, entries...)
	c.assigned.Apply(entries...) // cannot fail: the sectors exist, and the pages were erased before
}

// written returns the number of sectors of a group that have data.
func written(group ...api.SectorWrite) int {
	n := 0
	for _, w := range group {
		if len(w.Data) > 0 {
			n++
		}
	}
	return n
}

// requireRecord raises the error that layer 8 has for a record of some entries behind some pages of data. So nothing is written in vain.
func (c *core) requireRecord(data, entries int) {
	require(c.next <= maxFirst-uint64(data), api.ErrArg)
	require(journal.Pages(c.size(), entries) <= api.MaxRecord, api.ErrLong)
}

// store writes the page of a sector that has data, and returns the entry of the change.
func (c *core) store(w api.SectorWrite) api.MapEntry {
	if len(w.Data) == 0 {
		return api.MapEntry{Sector: w.Sector, Page: none}
	}
	number := c.next
	page := c.write(dataStream, api.Spare{Kind: api.SpareData, Sector: w.Sector, Sequence: number, Length: 1}, w.Data)
	c.newest[page/c.pages()] = number
	return api.MapEntry{Sector: w.Sector, Page: page}
}

// record writes a record to the journal. It is the last one as soon as it is complete.
func (c *core) record(k api.SpareKind, l ...api.MapEntry) {
	pages, e := journal.Record(k, c.size(), c.next, c.last, l...)
	require(e == api.OK, e)
	write := func(p api.JournalPage) {
		data, failure := journal.Encode(c.size(), p.Entries...)
		require(failure == api.OK, failure)
		c.write(journalStream, p.Spare, data)
	}
	for _, p := range pages {
		write(p)
	}
	c.last = c.next - 1
}

// checkpoint writes a checkpoint to blocks of its own, and erases the journal blocks from before.
func (c *core) checkpoint() {
	entries := c.assigned.Entries()
	c.requireRecord(0, len(entries))
	before := sortedKeys(c.journal)
	c.close(journalStream)
	c.record(api.SpareCheckpoint, entries...)
	for _, block := range before {
		delete(c.journal, block)
	}
	for _, block := range before {
		c.erase(block)
	}
}

// write writes a page, which must have the next number, to the open block of a stream, and returns the flash page. Where programming fails, the block is not written any more.
func (c *core) write(s stream, description api.Spare, data []byte) int {
	rest, e := spare.Encode(description, data)
	require(e == api.OK, e)
	b := c.ready(s)
	for !c.succeeds(c.device.Program(b.number, b.used, data, rest)) {
		c.suspect[b.number] = true
		c.close(s)
		b = c.ready(s)
	}
	page := b.number*c.pages() + b.used
	b.used++
	c.next++
	return page
}

// ready returns the open block of a stream; if it has no page left, it is replaced by the next free block.
func (c *core) ready(s stream) *openBlock {
	if b := c.open[s]; b != nil && b.used < c.pages() {
		return b
	}
	c.close(s)
	block, e := c.Take()
	require(e == api.OK, api.ErrFull)
	if s == journalStream {
		c.journal[block] = true
	}
	c.open[s] = &openBlock{number: block}
	return c.open[s]
}

// close closes the open block of a stream, if there is one.
func (c *core) close(s stream) {
	if b := c.open[s]; b != nil {
		c.Close(b.number)
		c.open[s] = nil
	}
}

// erase makes a block free; or bad, if programming it has failed, or erasing it fails.
func (c *core) erase(block int) {
	if c.suspect[block] || !c.succeeds(c.device.Erase(block)) {
		c.Retire(block)
	} else {
		c.Release(block)
	}
	delete(c.suspect, block)
	delete(c.newest, block)
}

// read returns the data of a flash page.
func (c *core) read(page int) []byte {
	data, _, e := c.device.Read(page/c.pages(), page%c.pages())
	require(c.succeeds(e), e)
	return data
}

// succeeds reports whether a call of the device has succeeded. If the power is off, the appender is down.
func (c *core) succeeds(e api.Errno) bool {
	if e == api.ErrPower {
		c.down = true
		panic(e)
	}
	return e == api.OK
}

func sortedKeys[K cmp.Ordered, V any](m map[K]V) []K {
	return slices.Sorted(maps.Keys(m))
}
