package appender_test

import (
	"fmt"
	"math"
	"slices"
	"testing"

	"capsule/api"
	"capsule/appender"
)

// filledBlocks returns an appender with a full data block 0, whose pages contain the sectors 3 and 1, and an open one 2 with 0. The open journal block 1 has five pages of eight.
func filledBlocks(t *testing.T, faults ...int) *appender.Appender {
	t.Helper()
	g := api.Geometry{Blocks: 6, Pages: 4, Size: 28, Endurance: 9}
	a := started(t, device(t, g, faults...), 8, api.Found{Next: 1})
	at := func(sector, seed int) api.SectorWrite {
		return api.SectorWrite{Sector: sector, Data: filled(g.Size, seed)}
	}
	appends(t, a, []api.SectorWrite{at(0, 1), at(3, 2), at(2, 3)}, []api.SectorWrite{at(1, 4), at(0, 5), trim(2)})
	return a
}

// P10.2, P10.5: Move of a full block: its pages in use are written again in their order, with one delta, and the block is free.
func TestMove(t *testing.T) {
	a := filledBlocks(t)
	d := a.Device()
	shows(t, a, numbers{8, 3, 1, 0, 7})
	assigns(t, a, entry{Sector: 0, Page: 8}, entry{Sector: 1, Page: 3}, entry{Sector: 3, Page: 1})
	gives(t, "Move(0)", a.Move(0), api.OK)
	shows(t, a, numbers{11, 4, 1, 0, 11})
	assigns(t, a, entry{Sector: 0, Page: 8}, entry{Sector: 1, Page: 10}, entry{Sector: 3, Page: 9})
	contains(t, a, 5, 4, 0, 2, 0, 0, 0, 0)
	isBlock(t, a, 0)
	isBlock(t, a, 2, page(t, d, 2, 0), fmt.Sprintf("%v %x", api.Spare{Kind: api.SpareData, Sector: 3, Sequence: 8, Length: 1}, filled(28, 2)), fmt.Sprintf("%v %x", api.Spare{Kind: api.SpareData, Sector: 1, Sequence: 9, Length: 1}, filled(28, 4)))
	isBlock(t, a, 1, page(t, d, 1, 0), page(t, d, 1, 1), fmt.Sprintf("%v %x", delta(10, 7), slices.Concat([]byte{2, 0, 0, 0, 3, 0, 0, 0, 10, 0, 0, 0, 1, 0, 0, 0, 11, 0, 0, 0}, make([]byte, 8))))
	if d.Erases(0) != 1 || len(a.Candidates()) != 0 {
		t.Error(d.Erases(0), a.Candidates())
	}
	consistent(t, a, [][]byte{filled(28, 5), filled(28, 4), nil, filled(28, 2), nil, nil, nil, nil})
	gives(t, "Move(0) again", a.Move(0), api.ErrState)
}

// P10.2: Move of a block whose pages contain no sector only erases it, be it full of old pages, erased, or undefined.
func TestMoveUnused(t *testing.T) {
	a := made(t)
	appends(t, a, []api.SectorWrite{put(0, 1), put(1, 1), put(2, 1), put(3, 1)}, []api.SectorWrite{put(0, 2), put(1, 2), trim(2), trim(3)})
	contains(t, a, 2, 2, 0, 0)
	shows(t, a, numbers{11, 3, 1, 0, 10})
	gives(t, "Move(0)", a.Move(0), api.OK)
	shows(t, a, numbers{11, 4, 1, 0, 11})
	contains(t, a, 2, 2, 0, 0)
	isBlock(t, a, 0)

	f := found()
	f.Entries, f.Dirty = nil, []int{0, 3, 4}
	b := started(t, used(t), 8, f)
	for i, block := range []int{4, 0, 3} {
		gives(t, "Move", b.Move(block), api.OK)
		shows(t, b, numbers{4, 3 + i, 1, 0, 6 + i})
		isBlock(t, b, block)
	}
}

// P10.2: Move of blocks that are free, open, bad, of the journal, or that do not exist; nothing is changed.
func TestMoveRefused(t *testing.T) {
	f := found()
	f.Dirty, f.Journal = []int{0, 4, 2}, []int{1, 5}
	d := used(t)
	a := started(t, d, 8, f)
	refused := func(block int, want api.Errno) {
		t.Helper()
		unchanged(t, a, func() { gives(t, fmt.Sprint("Move ", block), a.Move(block), want) })
	}
	for _, block := range []int{-1, -2, 6, 7, 24, math.MinInt, math.MaxInt, 1 << 32} {
		refused(block, api.ErrRange)
	}
	refused(1, api.ErrState)
	refused(5, api.ErrState)
	refused(3, api.ErrState)
	gives(t, "Move of an erased block that was found", a.Move(2), api.OK)
	refused(2, api.ErrState)
	appends(t, a, []api.SectorWrite{put(1, 1)})
	refused(3, api.ErrState)
	refused(2, api.ErrState)
}

// P10.2, P10.5: Checkpoint closes the open journal block, writes all entries to a block of its own, and erases the journal from before; the next delta follows it in that block.
func TestCheckpoint(t *testing.T) {
	a := made(t)
	appends(t, a, []api.SectorWrite{put(6, 1), put(2, 2)}, []api.SectorWrite{put(4, 3)}, []api.SectorWrite{trim(2)}, []api.SectorWrite{put(5, 4)})
	shows(t, a, numbers{9, 4, 1, 0, 8})
	gives(t, "Checkpoint", a.Checkpoint(), api.OK)
	shows(t, a, numbers{11, 4, 1, 0, 11})
	assigns(t, a, entry{Sector: 4, Page: 2}, entry{Sector: 5, Page: 3}, entry{Sector: 6, Page: 0})
	contains(t, a, 0, 0, 0, 0, 3, 4, 1, 0)
	first := journalPage(api.Spare{Kind: api.SpareCheckpoint, Sequence: 9, Prev: 8, Length: 2}, entry{Sector: 4, Page: 2}, entry{Sector: 5, Page: 3})
	second := journalPage(api.Spare{Kind: api.SpareCheckpoint, Sequence: 10, Prev: 8, Index: 1, Length: 2}, entry{Sector: 6, Page: 0})
	isBlock(t, a, 1)
	isBlock(t, a, 2, first, second)
	appends(t, a, []api.SectorWrite{trim(6)})
	isBlock(t, a, 2, first, second, journalPage(delta(11, 10), entry{Sector: 6, Page: -1}))
	shows(t, a, numbers{12, 4, 1, 0, 12})
	if n := a.Device().Erases(1); n != 1 {
		t.Error(n)
	}
	consistent(t, a, [][]byte{nil, nil, nil, nil, filled(20, 3), filled(20, 4), nil, nil})
}

// P10.2: Checkpoint twice in a row, first of an appender without sectors and journal: a page without entries, in another block each time.
func TestCheckpointTwice(t *testing.T) {
	a := made(t)
	gives(t, "Checkpoint", a.Checkpoint(), api.OK)
	shows(t, a, numbers{2, 5, 1, 0, 1})
	isBlock(t, a, 0, journalPage(api.Spare{Kind: api.SpareCheckpoint, Sequence: 1, Length: 1}))
	gives(t, "Checkpoint", a.Checkpoint(), api.OK)
	shows(t, a, numbers{3, 5, 1, 0, 3})
	isBlock(t, a, 0)
	isBlock(t, a, 1, journalPage(api.Spare{Kind: api.SpareCheckpoint, Sequence: 2, Prev: 1, Length: 1}))
	appends(t, a, []api.SectorWrite{put(1, 1)})
	gives(t, "Checkpoint", a.Checkpoint(), api.OK)
	shows(t, a, numbers{6, 4, 1, 0, 7})
	isBlock(t, a, 1)
	isBlock(t, a, 3, journalPage(api.Spare{Kind: api.SpareCheckpoint, Sequence: 5, Prev: 4, Length: 1}, entry{Sector: 1, Page: 8}))
	consistent(t, a, [][]byte{nil, filled(20, 1), nil, nil, nil, nil, nil, nil})
}

// P10.2: a checkpoint of several blocks, and the one behind it, which erases all of them.
func TestCheckpointOfSeveralBlocks(t *testing.T) {
	g := api.Geometry{Blocks: 16, Pages: 3, Size: 12, Endurance: 9}
	p := pairOn(t, device(t, g), 8, api.Found{Next: 1})
	for sector := range 8 {
		gives(t, "Append", p.append(t, api.SectorWrite{Sector: 7 - sector, Data: filled(12, sector)}), api.OK)
	}
	shows(t, p.a, numbers{17, 10, 3, 0, 16})
	gives(t, "Checkpoint", p.checkpoint(t), api.OK)
	shows(t, p.a, numbers{25, 10, 3, 0, 27})
	gives(t, "Append", p.append(t, trim(1)), api.OK)
	shows(t, p.a, numbers{26, 10, 3, 0, 28})
	gives(t, "Checkpoint", p.checkpoint(t), api.OK)
	shows(t, p.a, numbers{33, 10, 3, 0, 38})
	gives(t, "Append", p.append(t, trim(2), trim(3)), api.OK)
	shows(t, p.a, numbers{35, 10, 3, 0, 40})
	gives(t, "Append", p.append(t, trim(4)), api.OK)
	shows(t, p.a, numbers{36, 9, 4, 0, 41})
}

// P10.2: the journal blocks from before are erased in increasing order.
func TestCheckpointErasesInOrder(t *testing.T) {
	f := api.Found{Next: 1, Journal: []int{4, 1, 3, 0}}
	for failing, bad := range []int{0, 1, 3, 4} {
		a := started(t, device(t, small, 1+failing), 8, f)
		gives(t, "Checkpoint", a.Checkpoint(), api.OK)
		shows(t, a, numbers{2, 4, 1, 1, 5})
		if s := a.Device().State(bad, 0); s != api.PageUndefined {
			t.Errorf("operation %d has not erased block %d", 1+failing, bad)
		}
	}
}

// P10.2: Move and Checkpoint change the contents of no sector, in whichever order blocks are moved.
func TestContentsKept(t *testing.T) {
	g := api.Geometry{Blocks: 12, Pages: 4, Size: 20, Endurance: 90}
	p := pairOn(t, device(t, g), 8, api.Found{Next: 1})
	for i := range 24 {
		l := []api.SectorWrite{put(i*5%8, i), trim((i*5 + 1 + i%7) % 8)}
		gives(t, "Append", p.append(t, l[:1+i%2]...), api.OK)
		if i%6 == 5 {
			gives(t, "Checkpoint", p.checkpoint(t), api.OK)
		}
		for block := range g.Blocks {
			if i%(2+block%3) == 0 {
				p.move(t, (block*5+i)%g.Blocks)
			}
		}
	}
}

// P10.2, P1: a checkpoint, or a group, with more pages than a record may have is refused before anything is written, with the error of layer 8.
func TestRecordTooLong(t *testing.T) {
	g := api.Geometry{Blocks: 4096, Pages: 512, Size: 12, Endurance: 9}
	f := api.Found{Next: 1}
	for block := range 128 {
		f.Dirty = append(f.Dirty, block)
	}
	for i := range api.MaxRecord + 1 {
		f.Entries = append(f.Entries, entry{Sector: i, Page: i})
	}
	f.Next = math.MaxUint64
	gives(t, "Checkpoint without a number, too", started(t, device(t, g), 1<<17, f).Checkpoint(), api.ErrArg)
	f.Next = 1
	a := started(t, device(t, g), 1<<17, f)
	gives(t, "Checkpoint", a.Checkpoint(), api.ErrLong)
	shows(t, a, numbers{1, 3968, 0, 0, 0})
	appends(t, a, []api.SectorWrite{{Sector: 5, Data: filled(12, 5)}}) // opens a journal block
	for range 2 {
		gives(t, "Checkpoint", a.Checkpoint(), api.ErrLong)
	}
	appends(t, a, []api.SectorWrite{{Sector: 5, Data: filled(12, 6)}})
	shows(t, a, numbers{5, 3966, 1, 0, 4})
	var l []api.SectorWrite
	data := filled(12, 1)
	for i := range api.MaxRecord + 1 {
		l = append(l, api.SectorWrite{Sector: 1<<16 + i, Data: data})
	}
	gives(t, "Append", a.Append(l...), api.ErrLong)
	shows(t, a, numbers{5, 3966, 1, 0, 4})
	holds(t, a, 5, filled(12, 6))
	appends(t, a, []api.SectorWrite{trim(5)})
	gives(t, "Checkpoint", a.Checkpoint(), api.OK)
	shows(t, a, numbers{api.MaxRecord + 6, 3839, 128, 0, api.MaxRecord + 6})
	appends(t, a, l[1:])
	shows(t, a, numbers{3*api.MaxRecord + 6, 3583, 256, 0, 3*api.MaxRecord + 6})
	for _, sector := range []int{1<<16 + 1, 1<<17 - 1} {
		holds(t, a, sector, data)
	}
	holds(t, a, 1<<16, make([]byte, 12))
}
