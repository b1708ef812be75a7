package appender_test

import (
	"fmt"
	"testing"

	"capsule/api"
	"capsule/flash"
)

// roomy is a geometry with blocks to spare for the calls below.
var roomy = api.Geometry{Blocks: 14, Pages: 3, Size: 20, Endurance: 9}

// script is a sequence of calls of all kinds. Each returns its error and the contents that it leads to if it succeeds.
var script = []func(*testing.T, *pair) (api.Errno, [][]byte){
	appending(put(1, 1)),
	appending(put(2, 2), put(1, 3)),
	appending(put(3, 4), trim(1), put(0, 5), trim(2), put(4, 6)),
	moving(0),
	checkpointing,
	appending(put(1, 7), put(5, 8), put(2, 9), put(3, 10)),
	moving(0),
	appending(trim(5), trim(0), trim(6)),
	checkpointing,
	moving(1),
	moving(0),
	appending(put(6, 11)),
	checkpointing,
	checkpointing,
	appending(put(7, 12), trim(6)),
}

func appending(l ...api.SectorWrite) func(*testing.T, *pair) (api.Errno, [][]byte) {
	return func(t *testing.T, p *pair) (api.Errno, [][]byte) {
		t.Helper()
		after := changed(p.contents, l...)
		return p.append(t, l...), after
	}
}

// moving moves the candidate at a place of the list, if there is one.
func moving(place int) func(*testing.T, *pair) (api.Errno, [][]byte) {
	return func(t *testing.T, p *pair) (api.Errno, [][]byte) {
		t.Helper()
		l := p.a.Candidates()
		if len(l) <= place {
			return api.OK, p.contents
		}
		return p.move(t, l[place].Block), p.contents
	}
}

func checkpointing(t *testing.T, p *pair) (api.Errno, [][]byte) {
	t.Helper()
	return p.checkpoint(t), p.contents
}

// runs makes all calls of the script, and returns the number of operations.
func runs(t *testing.T, g api.Geometry, faults ...int) int {
	t.Helper()
	p := pairOn(t, device(t, g, faults...), 8, api.Found{Next: 1})
	for i, call := range script {
		if e, _ := call(t, p); e != api.OK {
			t.Errorf("faults %v, call %d: %v", faults, i, e)
		}
	}
	consistent(t, p.a, [][]byte{nil, filled(20, 7), filled(20, 9), filled(20, 10), filled(20, 6), nil, nil, filled(20, 12)})
	return p.a.Device().Operations()
}

// P10.1 to P10.5: each operation of the script fails, and each two of them, be they operations that program pages of data or of records, or that erase blocks.
func TestEveryFault(t *testing.T) {
	operations := runs(t, roomy)
	if operations < 40 {
		t.Fatalf("%d operations", operations)
	}
	for first := range operations {
		runs(t, roomy, first)
		for second := range first {
			runs(t, roomy, first, second)
		}
	}
}

// P10.1 to P10.5: several operations in a row fail.
func TestFaultsInARow(t *testing.T) {
	g := roomy
	g.Blocks = 24
	operations := runs(t, g)
	for first := range operations {
		var faults []int
		for n := range 6 {
			faults = append(faults, first+n)
			runs(t, g, faults...)
		}
	}
}

// P10.1: the page of data fails: it is written again to another block, with its number, and the delta names the new place.
func TestDataFails(t *testing.T) {
	a := made(t, 1, 2)
	appends(t, a, []api.SectorWrite{put(1, 1), put(2, 2)}, []api.SectorWrite{put(3, 3)})
	shows(t, a, numbers{6, 2, 1, 2, 7})
	assigns(t, a, entry{Sector: 1, Page: 0}, entry{Sector: 2, Page: 8}, entry{Sector: 3, Page: 9})
	failed := fmt.Sprint(api.PageFailed)
	isBlock(t, a, 0, dataPage(1, 1, 1), failed)
	isBlock(t, a, 1, failed)
	isBlock(t, a, 2, dataPage(2, 2, 2), dataPage(3, 4, 3))
	isBlock(t, a, 3, journalPage(delta(3, 0), entry{Sector: 1, Page: 0}, entry{Sector: 2, Page: 8}), journalPage(delta(5, 3), entry{Sector: 3, Page: 9}))
	candidates(t, a, [3]int{0, 1, 5}, [3]int{1, 0, 6})
	contains(t, a, 0, 1, 2, 3)
}

// P10.1: a page of a record fails: it is written again to another block, and the pages of the record lie in two blocks of the journal.
func TestRecordFails(t *testing.T) {
	a := made(t, 4)
	appends(t, a, []api.SectorWrite{put(1, 1), put(2, 2), put(3, 3)})
	shows(t, a, numbers{6, 3, 2, 1, 6})
	s := api.Spare{Kind: api.SpareDelta, Sequence: 4, Length: 2}
	isBlock(t, a, 1, journalPage(s, entry{Sector: 1, Page: 0}, entry{Sector: 2, Page: 1}), fmt.Sprint(api.PageFailed))
	s.Sequence, s.Index = 5, 1
	isBlock(t, a, 2, journalPage(s, entry{Sector: 3, Page: 2}))
	candidates(t, a)
	gives(t, "Move of a suspect journal block", a.Move(1), api.ErrState)
	appends(t, a, []api.SectorWrite{trim(1)})
	isBlock(t, a, 2, journalPage(s, entry{Sector: 3, Page: 2}), journalPage(delta(6, 5), entry{Sector: 1, Page: -1}))
	gives(t, "Checkpoint", a.Checkpoint(), api.OK)
	shows(t, a, numbers{8, 3, 1, 1, 9})
	contains(t, a, 0, 0, 2, 3)
}

// P10.2: a page of a checkpoint fails: the block is a journal block until the next checkpoint, and bad then.
func TestCheckpointFails(t *testing.T) {
	a := made(t, 6)
	appends(t, a, []api.SectorWrite{put(1, 1), put(2, 2), put(3, 3)})
	gives(t, "Checkpoint", a.Checkpoint(), api.OK)
	shows(t, a, numbers{8, 3, 2, 1, 9})
	isBlock(t, a, 2, page(t, a.Device(), 2, 0), fmt.Sprint(api.PageFailed))
	gives(t, "Move of a suspect journal block", a.Move(2), api.ErrState)
	gives(t, "Checkpoint", a.Checkpoint(), api.OK)
	shows(t, a, numbers{10, 3, 1, 1, 12})
	gives(t, "Move of a bad block", a.Move(2), api.ErrState)
	contains(t, a, 0, 1, 2, 3)
}

// full fails the test unless a call returns ErrFull, and leaves the contents and the entries as they were.
func full(t *testing.T, p *pair, call func() api.Errno) {
	t.Helper()
	before := fmt.Sprint(p.a.Entries())
	gives(t, "a call without a free block", call(), api.ErrFull)
	if after := fmt.Sprint(p.a.Entries()); after != before {
		t.Errorf("%s, not %s", after, before)
	}
	consistent(t, p.a, p.contents)
}

// P10.1, P10.2: no free block is left where one is needed: for a page of data, for a delta, in the middle of a record, for a checkpoint, and in the middle of one. Pages that were written stay unused, and groups that need no block are still accepted.
func TestFull(t *testing.T) {
	p := pairOn(t, device(t, api.Geometry{Blocks: 3, Pages: 4, Size: 20, Endurance: 9}), 8, api.Found{Next: 1})
	a := p.a
	for i := range 3 {
		gives(t, "Append", p.append(t, put(i, 1+i)), api.OK) // block 0: 1, 3, 5; block 1: deltas 2, 4, 6
	}
	full(t, p, func() api.Errno { return p.append(t, put(3, 4), put(4, 5), put(0, 6), put(1, 7), put(2, 8), put(5, 9)) }) // 7 to 11
	shows(t, a, numbers{12, 0, 1, 0, 11})
	candidates(t, a, [3]int{0, 3, 5}, [3]int{2, 0, 1})
	gives(t, "Append", p.append(t, trim(7)), api.OK)
	gives(t, "Append", p.append(t, trim(0)), api.OK) // block 1: delta 12
	shows(t, a, numbers{13, 0, 1, 0, 12})
	full(t, p, func() api.Errno { return p.append(t, trim(1)) })
	full(t, p, func() api.Errno { return p.append(t, put(1, 1)) })
	full(t, p, func() api.Errno { return p.checkpoint(t) })
	full(t, p, func() api.Errno { return p.move(t, 0) })
	gives(t, "Move of a block without sectors", p.move(t, 2), api.OK)
	full(t, p, func() api.Errno { return p.append(t, put(1, 1)) }) // 13 in block 2
	shows(t, a, numbers{14, 0, 1, 0, 14})
	full(t, p, func() api.Errno { return p.move(t, 0) }) // 14 and 15 in block 2
	shows(t, a, numbers{16, 0, 1, 0, 16})
	contains(t, a, 0, 2, 3)
}

// P10.1: a record that does not fit: its first page is written, and nothing of it counts. The next record follows the same one as it would have.
func TestFullInRecord(t *testing.T) {
	p := pairOn(t, device(t, api.Geometry{Blocks: 3, Pages: 4, Size: 12, Endurance: 9}), 8, api.Found{Next: 1})
	at := func(sector, seed int) api.SectorWrite {
		return api.SectorWrite{Sector: sector, Data: filled(12, seed)}
	}
	gives(t, "Append", p.append(t, at(0, 1), at(1, 2), at(2, 3)), api.OK) // block 0: 1 to 3; block 1: 4 to 6
	gives(t, "Append", p.append(t, at(0, 1)), api.OK)                     // block 0: 7; block 1: 8
	full(t, p, func() api.Errno { return p.append(t, trim(0), at(1, 9), trim(2)) })
	shows(t, p.a, numbers{10, 0, 1, 0, 9})
	p = pairOn(t, device(t, api.Geometry{Blocks: 4, Pages: 4, Size: 12, Endurance: 9}), 8, api.Found{Next: 1})
	gives(t, "Append", p.append(t, at(0, 1), at(1, 2), at(2, 3)), api.OK)
	gives(t, "Append", p.append(t, at(3, 4), at(4, 5)), api.OK)                    // block 0: 7; block 2: 8; block 1: 9; block 3: 10
	gives(t, "Append", p.append(t, at(4, 6)), api.OK)                              // block 2: 11; block 3: 12
	full(t, p, func() api.Errno { return p.append(t, trim(0), trim(1), trim(2)) }) // block 3: 13, 14
	shows(t, p.a, numbers{15, 0, 2, 0, 14})
	gives(t, "Move", p.move(t, 0), api.ErrFull) // block 2: 15, 16
	shows(t, p.a, numbers{17, 0, 2, 0, 16})
}

// P10.1, P10.2: after a call that returned ErrFull, a record that could not be completed does not count; the journal goes on when a block is free again.
func TestFullAndOn(t *testing.T) {
	g := api.Geometry{Blocks: 4, Pages: 4, Size: 12, Endurance: 9}
	d := device(t, g)
	p := pairOn(t, d, 8, api.Found{Next: 1, Dirty: []int{3}})
	at := func(sector, seed int) api.SectorWrite {
		return api.SectorWrite{Sector: sector, Data: filled(12, seed)}
	}
	gives(t, "Append", p.append(t, at(0, 1), at(1, 2), at(2, 3)), api.OK)                              // block 0: 1 to 3; block 1: 4 to 6
	gives(t, "Append", p.append(t, at(2, 4)), api.OK)                                                  // block 0: 7; block 1: 8
	full(t, p, func() api.Errno { return p.append(t, trim(0), at(7, 1), trim(1), trim(2), at(6, 9)) }) // block 2: 9, 10
	gives(t, "Move of an erased block that was found", p.move(t, 3), api.OK)
	full(t, p, func() api.Errno { return p.append(t, trim(0), trim(1), trim(2), at(7, 1), at(6, 9)) }) // block 2: 11, 12; block 3: 13 to 16
	shows(t, p.a, numbers{17, 0, 2, 0, 17})
	full(t, p, func() api.Errno { return p.checkpoint(t) })
	candidates(t, p.a, [3]int{0, 3, 10})
	gives(t, "Move of a block with sectors", p.move(t, 0), api.ErrFull)
	candidates(t, p.a, [3]int{0, 3, 10}, [3]int{2, 0, 5})
	gives(t, "Move of a block without sectors", p.move(t, 2), api.OK)
	gives(t, "Checkpoint", p.checkpoint(t), api.OK) // block 2: 17 to 19
	shows(t, p.a, numbers{20, 2, 1, 0, 23})
	contains(t, p.a, 1, 2, 4)
}

// P10.2: a failed checkpoint: the blocks that were taken for it are journal blocks, too; the journal block that was open is closed, and the next checkpoint erases all of them.
func TestFullInCheckpoint(t *testing.T) {
	g := api.Geometry{Blocks: 9, Pages: 2, Size: 12, Endurance: 9}
	p := pairOn(t, device(t, g), 8, api.Found{Next: 1, Dirty: []int{8}})
	at := func(sector, seed int) api.SectorWrite {
		return api.SectorWrite{Sector: sector, Data: filled(12, seed)}
	}
	gives(t, "Append", p.append(t, at(0, 1), at(1, 2), at(2, 3), at(3, 4), at(4, 5)), api.OK) // blocks 0 to 2: 1 to 5; blocks 3 to 5: 6 to 10
	full(t, p, func() api.Errno { return p.checkpoint(t) })                                   // blocks 6 and 7: 11 to 14
	shows(t, p.a, numbers{15, 0, 5, 0, 14})
	full(t, p, func() api.Errno { return p.append(t, trim(0)) })
	gives(t, "Move of a journal block", p.move(t, 6), api.ErrState)
	gives(t, "Move of a block without sectors", p.move(t, 8), api.OK)
	full(t, p, func() api.Errno { return p.append(t, trim(0), trim(1), trim(2)) }) // block 8: 15, 16
	gives(t, "Move of a block with sectors", p.move(t, 1), api.ErrFull)            // block 2: 17
	shows(t, p.a, numbers{18, 0, 6, 0, 18})
	candidates(t, p.a, [3]int{0, 2, 16}, [3]int{1, 2, 14}, [3]int{2, 1, 1})
	contains(t, p.a, 1, 2, 3, 4, 5)

	p = pairOn(t, device(t, g), 8, api.Found{Next: 1, Dirty: []int{8}})
	gives(t, "Append", p.append(t, at(0, 1), at(1, 2), at(2, 3), at(3, 4), at(4, 5)), api.OK)
	full(t, p, func() api.Errno { return p.checkpoint(t) })
	gives(t, "Move", p.move(t, 8), api.OK)
	gives(t, "Append", p.append(t, trim(0)), api.OK) // block 8: 15
	gives(t, "Append", p.append(t, trim(1)), api.OK) // block 8: 16
	gives(t, "Move", p.move(t, 0), api.OK)
	gives(t, "Append", p.append(t, trim(2), trim(3)), api.OK) // block 0: 17, 18
	gives(t, "Move", p.move(t, 1), api.OK)
	gives(t, "Checkpoint", p.checkpoint(t), api.OK) // block 1: 19
	shows(t, p.a, numbers{20, 7, 1, 0, 29})
	contains(t, p.a, 0, 0, 0, 0, 5)
}

// P10.1: on a device on which every operation fails, or every block is worn, calls end with ErrFull.
func TestNothingWorks(t *testing.T) {
	var faults []int
	for i := range 100 {
		faults = append(faults, i)
	}
	for _, call := range []func(*pair) api.Errno{
		func(p *pair) api.Errno { return p.append(t, put(1, 1)) },
		func(p *pair) api.Errno { return p.checkpoint(t) },
	} {
		p := pairOn(t, device(t, small, faults...), 8, api.Found{Next: 1})
		full(t, p, func() api.Errno { return call(p) })
		if p.a.Free() != 0 || p.a.Bad() != 6 || p.a.Next() != 1 {
			t.Errorf("Free %d, Bad %d, Next %d", p.a.Free(), p.a.Bad(), p.a.Next())
		}
		for block := range small.Blocks {
			p.move(t, block)
		}
	}
}

// P1: an appender whose free blocks were programmed or erased by others still terminates.
func TestDisturbed(t *testing.T) {
	for _, disturb := range []func(*flash.Device, int){
		func(d *flash.Device, block int) {
			d.Program(block, d.Next(block)%small.Pages, make([]byte, small.Size), make([]byte, api.SpareSize))
		},
		func(d *flash.Device, block int) { d.Erase(block) },
		func(d *flash.Device, block int) {
			for range small.Endurance {
				d.Erase(block)
			}
		},
	} {
		a := made(t)
		for i := range 30 {
			a.Append(put(i%5, i), trim((i+1)%5))
			disturb(a.Device(), i%small.Blocks)
			a.Move(i * 5 % small.Blocks)
			a.Checkpoint()
			for sector := range 5 {
				a.Read(sector)
			}
			a.Candidates()
		}
	}
}
