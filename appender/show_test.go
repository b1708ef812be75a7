package appender_test

import (
	"fmt"
	"math"
	"slices"
	"testing"

	"capsule/api"
	"capsule/appender"
)

// candidates fails the test unless the appender's candidates are these; each one is its block, its pages in use, and its age.
func candidates(t *testing.T, a *appender.Appender, want ...[3]int) {
	t.Helper()
	var l [][3]int
	for _, c := range a.Candidates() {
		if c.Pages != a.Device().Geometry().Pages {
			t.Errorf("%v", c)
		}
		l = append(l, [3]int{c.Block, c.Valid, c.Age})
	}
	if !slices.Equal(l, want) {
		t.Errorf("Candidates: %v, not %v", l, want)
	}
}

// P10.4: the candidates, with their pages in use and their ages, after each kind of call; no journal block, open block, free block or bad block is one.
func TestCandidates(t *testing.T) {
	g := api.Geometry{Blocks: 8, Pages: 2, Size: 28, Endurance: 1}
	a := started(t, device(t, g), 8, api.Found{Next: 1})
	at := func(sector, seed int) api.SectorWrite {
		return api.SectorWrite{Sector: sector, Data: filled(28, seed)}
	}
	candidates(t, a)
	appends(t, a, []api.SectorWrite{at(0, 1), at(1, 2)}) // block 0: 1, 2; block 1: delta 3
	candidates(t, a)
	appends(t, a, []api.SectorWrite{at(2, 3)}) // block 2: 4; block 1: delta 5
	candidates(t, a, [3]int{0, 2, 4})
	appends(t, a, []api.SectorWrite{at(1, 4), at(3, 5)}) // block 2: 6; block 3: 7; block 4: delta 8
	candidates(t, a, [3]int{0, 1, 7}, [3]int{2, 2, 3})
	appends(t, a, []api.SectorWrite{trim(0)}) // block 4: delta 9
	candidates(t, a, [3]int{0, 0, 8}, [3]int{2, 2, 4})
	gives(t, "Move(2)", a.Move(2), api.OK) // block 3: 10; block 5: 11; block 6: delta 12
	candidates(t, a, [3]int{0, 0, 11}, [3]int{3, 2, 3})
	gives(t, "Move(0)", a.Move(0), api.OK)
	candidates(t, a, [3]int{3, 2, 3})
	shows(t, a, numbers{13, 3, 3, 0, 14})
	gives(t, "Checkpoint", a.Checkpoint(), api.OK) // block 7: checkpoint 13
	candidates(t, a, [3]int{3, 2, 4})
	shows(t, a, numbers{14, 5, 1, 0, 18})
	appends(t, a, []api.SectorWrite{at(4, 6), at(5, 7), at(6, 8)}) // block 5: 14; block 0: 15, 16; block 7: delta 17
	candidates(t, a, [3]int{3, 2, 8}, [3]int{5, 2, 4})
	appends(t, a, []api.SectorWrite{at(7, 9)}) // block 1: 18; block 2: delta 19
	candidates(t, a, [3]int{0, 2, 4}, [3]int{3, 2, 10}, [3]int{5, 2, 6})
	gives(t, "Move(0), which is worn", a.Move(0), api.OK) // block 1: 20; block 4: 21; block 2: delta 22
	candidates(t, a, [3]int{1, 2, 3}, [3]int{3, 2, 13}, [3]int{5, 2, 9})
	shows(t, a, numbers{23, 1, 2, 1, 27})
}

// P10.4: the age counts from pages that this appender has written to the block, and from 0 if there are none; it is at most MaxAge.
func TestAges(t *testing.T) {
	const most = api.MaxAge
	for _, c := range []struct {
		next uint64
		age  int
	}{{1, 1}, {2, 2}, {1000, 1000}, {most - 1, most - 1}, {most, most}, {most + 1, most}, {1 << 50, most}, {1 << 63, most}, {1<<63 + 5, most}, {math.MaxUint64, most}} {
		a := started(t, device(t, small), 8, api.Found{Next: c.next, Dirty: []int{3, 2}, Journal: []int{0}})
		candidates(t, a, [3]int{2, 0, c.age}, [3]int{3, 0, c.age})
	}
	a := started(t, device(t, small), 8, api.Found{Next: most - 3, Dirty: []int{2}})
	appends(t, a, []api.SectorWrite{put(0, 1)}, []api.SectorWrite{put(0, 2)}, []api.SectorWrite{put(0, 3)}, []api.SectorWrite{put(0, 4), put(1, 1)})
	candidates(t, a, [3]int{0, 1, 3}, [3]int{2, 0, most})
}

// P10.4: pages from before a block was erased do not count for its age.
func TestAgeAfterErase(t *testing.T) {
	g := api.Geometry{Blocks: 5, Pages: 2, Size: 28, Endurance: 9}
	a := started(t, device(t, g, 9, 10), 8, api.Found{Next: 50})
	at := func(sector, seed int) api.SectorWrite {
		return api.SectorWrite{Sector: sector, Data: filled(28, seed)}
	}
	appends(t, a, []api.SectorWrite{at(0, 1)}, []api.SectorWrite{at(0, 2)}, []api.SectorWrite{at(0, 3)}) // block 0: 50, 52; block 1: deltas 51, 53; block 2: 54; block 3: delta 55
	candidates(t, a, [3]int{0, 0, 4})
	gives(t, "Move(0)", a.Move(0), api.OK)
	candidates(t, a)
	appends(t, a, []api.SectorWrite{at(1, 4)})          // block 2: 56; block 3: delta 57
	gives(t, "Append", a.Append(at(2, 5)), api.ErrFull) // blocks 4 and 0 fail
	candidates(t, a, [3]int{0, 0, 58}, [3]int{2, 2, 2}, [3]int{4, 0, 58})
	shows(t, a, numbers{58, 0, 2, 2, 11})
}

// P10.4: Free, Journal and Bad count blocks that become suspect, and bad when they are erased, also if erasing fails or they are worn.
func TestBad(t *testing.T) {
	g := api.Geometry{Blocks: 8, Pages: 2, Size: 28, Endurance: 1}
	at := func(sector, seed int) api.SectorWrite {
		return api.SectorWrite{Sector: sector, Data: filled(28, seed)}
	}
	a := started(t, device(t, g, 0, 2, 3, 9), 8, api.Found{Next: 1})
	appends(t, a, []api.SectorWrite{at(0, 1)}) // block 0 fails; block 1: 1; blocks 2 and 3 fail; block 4: delta 2
	shows(t, a, numbers{3, 3, 3, 3, 5})
	candidates(t, a, [3]int{0, 0, 3})
	gives(t, "Move(0)", a.Move(0), api.OK) // no operation: the block is suspect
	shows(t, a, numbers{3, 3, 3, 3, 5})
	candidates(t, a)
	gives(t, "Move of a bad block", a.Move(0), api.ErrState)
	appends(t, a, []api.SectorWrite{at(0, 2)})     // block 1: 3; block 4: delta 4
	gives(t, "Checkpoint", a.Checkpoint(), api.OK) // block 5: checkpoint 5; blocks 2 and 3 are not erased, and block 4 is
	shows(t, a, numbers{6, 3, 1, 3, 9})
	appends(t, a, []api.SectorWrite{at(1, 3)}) // block 6 fails; block 7: 6; block 5: delta 7
	shows(t, a, numbers{8, 1, 1, 4, 12})
	candidates(t, a, [3]int{1, 1, 5}, [3]int{6, 0, 8})
	gives(t, "Move(1)", a.Move(1), api.OK) // block 7: 8; block 4: delta 9
	shows(t, a, numbers{10, 1, 2, 4, 15})
	gives(t, "Move(6)", a.Move(6), api.OK)
	shows(t, a, numbers{10, 1, 2, 4, 15})
	gives(t, "Checkpoint", a.Checkpoint(), api.OK) // block 1: checkpoint 10; block 5 is erased, and block 4 is worn
	shows(t, a, numbers{11, 1, 1, 5, 17})
	gives(t, "Move of a worn block", a.Move(4), api.ErrState)
	consistent(t, a, [][]byte{filled(28, 2), filled(28, 3), nil, nil, nil, nil, nil, nil})
}

// P10.4: Move of a block whose erasing fails: the sectors are moved, and the block is bad.
func TestEraseFails(t *testing.T) {
	a := filledBlocks(t, 10)
	gives(t, "Move(0)", a.Move(0), api.OK)
	shows(t, a, numbers{11, 3, 1, 1, 11})
	contains(t, a, 5, 4, 0, 2, 0, 0, 0, 0)
	candidates(t, a)
	gives(t, "Move(0) again", a.Move(0), api.ErrState)
	if s := a.Device().State(0, 1); s != api.PageUndefined {
		t.Error(s)
	}
}

// P10.4: the free block with the fewest erases is written first, and of those the first one.
func TestNextFreeBlock(t *testing.T) {
	d := device(t, small)
	for _, block := range []int{0, 0, 1, 3, 3, 4, 5} {
		gives(t, "Erase", d.Erase(block), api.OK)
	}
	a := started(t, d, 8, api.Found{Next: 1, Dirty: []int{1}})
	for i := range 8 {
		appends(t, a, []api.SectorWrite{put(i, i)})
	}
	assigns(t, a, entry{Sector: 0, Page: 8}, entry{Sector: 1, Page: 9}, entry{Sector: 2, Page: 10}, entry{Sector: 3, Page: 11}, entry{Sector: 4, Page: 20}, entry{Sector: 5, Page: 21}, entry{Sector: 6, Page: 22}, entry{Sector: 7, Page: 23})
	shows(t, a, numbers{17, 1, 2, 0, 23})
	isBlock(t, a, 3)
	for _, block := range []int{4, 0} {
		if _, rest, _ := d.Read(block, 3); rest[4] != byte(api.SpareDelta) {
			t.Errorf("block %d contains no journal", block)
		}
	}
}

// P10.4: Device returns the device itself: what happens to it by other calls can be seen there.
func TestDevice(t *testing.T) {
	d := device(t, small)
	a := started(t, d, 8, api.Found{Next: 1})
	appends(t, a, []api.SectorWrite{put(0, 1)})
	if a.Device() != d || d.Operations() != 2 {
		t.Errorf("%p, %p, %d", a.Device(), d, d.Operations())
	}
}

// P10.4: a copy is in the same state, open blocks and the last record included, on a device of its own; changes of the one do not show in the other.
func TestCopy(t *testing.T) {
	change := []func(*appender.Appender) api.Errno{
		func(a *appender.Appender) api.Errno { return a.Append(put(0, 50), put(4, 51), trim(3)) },
		func(a *appender.Appender) api.Errno { return a.Append(put(0, 52)) },
		func(a *appender.Appender) api.Errno { return a.Move(a.Candidates()[0].Block) },
		func(a *appender.Appender) api.Errno { return a.Checkpoint() },
		func(a *appender.Appender) api.Errno { return a.Append(trim(4)) },
		func(a *appender.Appender) api.Errno { return a.Device().Cut(a.Device().Operations(), 3) },
	}
	for _, faults := range [][]int{nil, {1}, {2, 4}, {9, 10}} {
		g := api.Geometry{Blocks: 12, Pages: 4, Size: 20, Endurance: 9}
		a := started(t, device(t, g, faults...), 8, api.Found{Next: 1})
		for i := range 7 {
			appends(t, a, []api.SectorWrite{put(i%5, 1+i)})
		}
		for i := range change {
			b := a.Copy()
			if b == nil || b == a || b.Device() == a.Device() {
				t.Fatalf("Copy: %p, %p", a, b)
			}
			c := b.Copy()
			unchanged(t, b, func() {
				for _, call := range change[i:] {
					gives(t, fmt.Sprint("a call of ", i), call(a), api.OK)
				}
			})
			text := look(t, a)
			for _, call := range change[i:] {
				gives(t, fmt.Sprint("a call of ", i), call(b), api.OK)
			}
			if other := look(t, b); other != text {
				t.Errorf("a copy does otherwise:\n%s\nthan\n%s", other, text)
			}
			unchanged(t, c, func() { gives(t, "a call", a.Append(put(1, 60)), api.ErrPower) })
			if other := look(t, b); other != text {
				t.Errorf("the original was changed:\n%s\nnot\n%s", other, text)
			}
			gives(t, "the first call", change[i](c), api.OK)
			a = c
		}
	}
}

// P10.4: a copy has the faults and the pending cut of the device, and is down if the appender is.
func TestCopyOfDevice(t *testing.T) {
	a := made(t, 3)
	appends(t, a, []api.SectorWrite{put(0, 1)})
	gives(t, "Cut", a.Device().Cut(5, 0), api.OK)
	for _, b := range []*appender.Appender{a.Copy(), a} {
		appends(t, b, []api.SectorWrite{put(0, 2)})
		shows(t, b, numbers{5, 3, 2, 1, 5})
		gives(t, "Append", b.Append(put(0, 3)), api.ErrPower)
		c := b.Copy()
		gives(t, "Restart", c.Device().Restart(), api.OK)
		gives(t, "Append of a copy that is down", c.Append(put(0, 3)), api.ErrPower)
		cannotRead(t, c, 0, api.ErrPower)
		if b.Device().Powered() {
			t.Error("the device of the copy is that of the appender")
		}
	}
}

// P10.1 to P10.4, P1: all methods of a nil and of a zero appender, also with arguments that are wrong otherwise.
func TestNoAppender(t *testing.T) {
	for _, a := range []*appender.Appender{nil, {}} {
		for _, l := range [][]api.SectorWrite{nil, {put(1, 1)}, {put(1, 1), put(1, 1)}, {put(-1, 1)}, {{Sector: 1, Data: []byte{1}}}} {
			gives(t, fmt.Sprint("Append", l), a.Append(l...), api.ErrNil)
		}
		for _, n := range []int{0, 1, -1, math.MaxInt, math.MinInt} {
			gives(t, "Move", a.Move(n), api.ErrNil)
			cannotRead(t, a, n, api.ErrNil)
		}
		gives(t, "Checkpoint", a.Checkpoint(), api.ErrNil)
		if a.Candidates() != nil || a.Free() != 0 || a.Journal() != 0 || a.Bad() != 0 || a.Next() != 0 || a.Entries() != nil || a.Device() != nil || a.Copy() != nil {
			t.Error("a nil or zero appender shows something")
		}
	}
}
