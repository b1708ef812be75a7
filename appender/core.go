package appender

import (
	"maps"
	"slices"

	"capsule/api"
	"capsule/flash"
	"capsule/journal"
	"capsule/mapping"
	"capsule/pool"
)

// core is what an appender knows of its device.
type core struct {
	*pool.Pool
	device     *flash.Device
	assigned   *mapping.Map
	next, last uint64              // the next page number, and the number of the last page of the last record
	open       [streams]*openBlock // nil: none is open
	journal    map[int]bool        // by block
	suspect    map[int]bool        // by block: programming a page of it has failed
	newest     map[int]uint64      // by block: the number of the last page of data that was written to it since it was erased
	down       bool
}

// stream is a kind of pages that has an open block of its own.
type stream int

const (
	dataStream stream = iota
	journalStream
	streams
)

// openBlock is a block that is being written.
type openBlock struct {
	number int
	used   int // pages
}

// start returns the core of an appender that starts with what was found.
func start(d *flash.Device, sectors int, f api.Found) *core {
	g := d.Geometry()
	require(g.Blocks > 0, api.ErrNil)
	m, e := mapping.New(sectors, g.Blocks, g.Pages)
	require(e == api.OK && journal.Capacity(g.Size) > 0, api.ErrArg)
	requireBlocks(d, f)
	requireEntries(g, f)
	require(m.Apply(f.Entries...) == api.OK && f.Next > f.Last, api.ErrArg)
	require(d.Powered(), api.ErrPower)
	return &core{
		Pool:     poolOf(d, slices.Concat(f.Journal, f.Dirty)...),
		device:   d,
		assigned: m,
		next:     f.Next,
		last:     f.Last,
		journal:  setOf(f.Journal...),
		suspect:  map[int]bool{},
		newest:   map[int]uint64{},
	}
}

// requireBlocks raises the error of lists of blocks that do not fit a device.
func requireBlocks(d *flash.Device, f api.Found) {
	blocks := d.Geometry().Blocks
	listed := map[int]bool{}
	for _, block := range slices.Concat(f.Journal, f.Dirty) {
		require(block >= 0 && block < blocks && !listed[block], api.ErrArg)
		listed[block] = true
	}
	for block := range blocks {
		// Pages are programmed in order: if the first one is erased, so are the others.
		require(listed[block] || d.Next(block) == 0, api.ErrArg)
	}
}

// requireEntries raises the error of entries with a page outside of the blocks that may contain sectors.
func requireEntries(g api.Geometry, f api.Found) {
	dirty := setOf(f.Dirty...)
	for _, entry := range f.Entries {
		require(entry.Page >= 0 && dirty[entry.Page/g.Pages], api.ErrArg)
	}
}

// poolOf returns the pool of a device's blocks, of which some are full and the others free.
func poolOf(d *flash.Device, full ...int) *pool.Pool {
	erases := make([]int, d.Geometry().Blocks)
	for block, n := range d.Wear() {
		erases[block] = n
	}
	p, _ := pool.New(erases...) // a device has no more blocks and erases than a pool may have
	for _, block := range full {
		p.Set(block, api.BlockFull, erases[block])
	}
	return p
}

func setOf(l ...int) map[int]bool {
	set := map[int]bool{}
	for _, n := range l {
		set[n] = true
	}
	return set
}

// copied returns a core that shares no memory with this one.
func (c *core) copied() *core {
	d := *c
	d.Pool = c.Pool.Copy()
	d.device = c.device.Copy()
	d.assigned = c.assigned.Copy()
	for s, b := range c.open {
		d.open[s] = b.copied()
	}
	d.journal = maps.Clone(c.journal)
	d.suspect = maps.Clone(c.suspect)
	d.newest = maps.Clone(c.newest)
	return &d
}

func (b *openBlock) copied() *openBlock {
	if b == nil {
		return nil
	}
	c := *b
	return &c
}

func (c *core) size() int {
	return c.device.Geometry().Size
}

func (c *core) pages() int {
	return c.device.Geometry().Pages
}

// requireGroup raises the error of a group that cannot be appended.
func (c *core) requireGroup(l ...api.SectorWrite) {
	require(len(l) > 0, api.ErrArg)
	seen := map[int]bool{}
	for _, w := range l {
		require(!seen[w.Sector] && (len(w.Data) == 0 || len(w.Data) == c.size()), api.ErrArg)
		seen[w.Sector] = true
	}
	for _, w := range l {
		c.requireSector(w.Sector)
	}
}

func (c *core) requireSector(sector int) {
	require(sector >= 0 && sector < c.assigned.Sectors(), api.ErrRange)
}

func (c *core) requirePower() {
	require(!c.down, api.ErrPower)
}

func (c *core) isMovable(block int) bool {
	return c.State(block) == api.BlockFull && !c.journal[block]
}

func (c *core) candidate(block int) api.Candidate {
	return api.Candidate{
		Block: block,
		Valid: c.assigned.Valid(block),
		Pages: c.pages(),
		Age:   int(min(c.next-c.newest[block], api.MaxAge)),
	}
}

// contents returns the contents of a sector.
func (c *core) contents(sector int) []byte {
	page, mapped := c.assigned.At(sector)
	if !mapped {
		return make([]byte, c.size())
	}
	return c.read(page)
}

// sectorsIn returns the group that writes the sectors in a block again.
func (c *core) sectorsIn(block int) []api.SectorWrite {
	var group []api.SectorWrite
	for page, sector := range c.assigned.Pages(block) {
		group = append(group, api.SectorWrite{Sector: sector, Data: c.read(page)})
	}
	return group
}

// effective returns the changes of a group without those that trim a sector that is not mapped.
func (c *core) effective(l ...api.SectorWrite) []api.SectorWrite {
	group, n := make([]api.SectorWrite, len(l)), 0
	for _, w := range l {
		if _, mapped := c.assigned.At(w.Sector); mapped || len(w.Data) > 0 {
			group[n] = w
			n++
		}
	}
	return group[:n:n]
}
