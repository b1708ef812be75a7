package appender_test

import (
	"fmt"
	"math"
	"slices"
	"testing"

	"capsule/api"
	"capsule/appender"
	"capsule/spare"
)

// dataPage and journalPage describe intact pages of the geometry small as the function page does.
func dataPage(sector int, number uint64, seed int) string {
	return fmt.Sprintf("%v %x", api.Spare{Kind: api.SpareData, Sector: sector, Sequence: number, Length: 1}, filled(small.Size, seed))
}

func journalPage(s api.Spare, l ...entry) string {
	b := []byte{byte(len(l)), 0, 0, 0}
	for _, x := range l {
		b = append(b, byte(x.Sector), 0, 0, 0, byte(x.Page+1), 0, 0, 0)
	}
	return fmt.Sprintf("%v %x", s, append(b, make([]byte, small.Size-len(b))...))
}

// delta is the description of a delta of one page.
func delta(number, prev uint64) api.Spare {
	return api.Spare{Kind: api.SpareDelta, Sequence: number, Prev: prev, Length: 1}
}

// isBlock fails the test unless a block contains these pages, and behind them erased ones.
func isBlock(t *testing.T, a *appender.Appender, block int, pages ...string) {
	t.Helper()
	for number := range a.Device().Geometry().Pages {
		want := fmt.Sprint(api.PageErased)
		if number < len(pages) {
			want = pages[number]
		}
		if s := page(t, a.Device(), block, number); s != want {
			t.Errorf("block %d, page %d: %s, not %s", block, number, s, want)
		}
	}
}

// P10.1, P10.5: groups of one written sector: where their pages are, which numbers they have, and what the appender shows.
func TestAppendOne(t *testing.T) {
	a := made(t)
	appends(t, a, []api.SectorWrite{put(5, 1)})
	shows(t, a, numbers{3, 4, 1, 0, 2})
	assigns(t, a, entry{Sector: 5, Page: 0})
	contains(t, a, 0, 0, 0, 0, 0, 1, 0, 0)
	isBlock(t, a, 0, dataPage(5, 1, 1))
	isBlock(t, a, 1, journalPage(delta(2, 0), entry{Sector: 5, Page: 0}))
	appends(t, a, []api.SectorWrite{put(0, 2)}, []api.SectorWrite{put(5, 3)})
	shows(t, a, numbers{7, 4, 1, 0, 6})
	assigns(t, a, entry{Sector: 0, Page: 1}, entry{Sector: 5, Page: 2})
	contains(t, a, 2, 0, 0, 0, 0, 3, 0, 0)
	isBlock(t, a, 0, dataPage(5, 1, 1), dataPage(0, 3, 2), dataPage(5, 5, 3))
	isBlock(t, a, 1, journalPage(delta(2, 0), entry{Sector: 5, Page: 0}), journalPage(delta(4, 2), entry{Sector: 0, Page: 1}), journalPage(delta(6, 4), entry{Sector: 5, Page: 2}))
	for block := 2; block < 6; block++ {
		isBlock(t, a, block)
	}
}

// P10.1, P10.5: a group of written and trimmed sectors, mapped and not, in any order: pages of data in the order of the group, and a record of several pages with their entries.
func TestAppendSeveral(t *testing.T) {
	a := made(t)
	appends(t, a, []api.SectorWrite{put(7, 1), put(3, 2)})
	appends(t, a, []api.SectorWrite{trim(1), put(6, 3), trim(7), put(3, 4), trim(0), put(2, 5), trim(4)})
	shows(t, a, numbers{9, 3, 1, 0, 8})
	assigns(t, a, entry{Sector: 2, Page: 8}, entry{Sector: 3, Page: 3}, entry{Sector: 6, Page: 2})
	contains(t, a, 0, 0, 5, 4, 0, 0, 3, 0)
	isBlock(t, a, 0, dataPage(7, 1, 1), dataPage(3, 2, 2), dataPage(6, 4, 3), dataPage(3, 5, 4))
	isBlock(t, a, 2, dataPage(2, 6, 5))
	isBlock(t, a, 1, journalPage(delta(3, 0), entry{Sector: 7, Page: 0}, entry{Sector: 3, Page: 1}),
		journalPage(api.Spare{Kind: api.SpareDelta, Sequence: 7, Prev: 3, Length: 2}, entry{Sector: 6, Page: 2}, entry{Sector: 7, Page: -1}),
		journalPage(api.Spare{Kind: api.SpareDelta, Sequence: 8, Prev: 3, Index: 1, Length: 2}, entry{Sector: 3, Page: 3}, entry{Sector: 2, Page: 8}))
	appends(t, a, []api.SectorWrite{trim(2)})
	isBlock(t, a, 1, page(t, a.Device(), 1, 0), page(t, a.Device(), 1, 1), page(t, a.Device(), 1, 2), journalPage(delta(9, 8), entry{Sector: 2, Page: -1}))
	contains(t, a, 0, 0, 0, 4, 0, 0, 3, 0)
}

// P10.1: trimming sectors that are not mapped writes nothing; trimming a mapped one writes one delta.
func TestAppendTrim(t *testing.T) {
	a := made(t)
	unchanged(t, a, func() {
		appends(t, a, []api.SectorWrite{trim(0)}, []api.SectorWrite{trim(7), trim(1), {Sector: 2, Data: []byte{}}})
	})
	shows(t, a, numbers{1, 6, 0, 0, 0})
	appends(t, a, []api.SectorWrite{put(1, 1), put(2, 2)}, []api.SectorWrite{{Sector: 1, Data: []byte{}}})
	shows(t, a, numbers{5, 4, 1, 0, 4})
	assigns(t, a, entry{Sector: 2, Page: 1})
	contains(t, a, 0, 0, 2)
	unchanged(t, a, func() { appends(t, a, []api.SectorWrite{trim(1)}, []api.SectorWrite{trim(1), trim(0)}) })
	appends(t, a, []api.SectorWrite{trim(2)}, []api.SectorWrite{put(2, 3)}, []api.SectorWrite{trim(2)})
	assigns(t, a)
	contains(t, a, 0, 0, 0)
	shows(t, a, numbers{9, 3, 2, 0, 8})
}

// P10.1: a block is closed only when a page is to be written behind its last one.
func TestAppendFillsBlocks(t *testing.T) {
	a := made(t)
	for i := range 4 {
		appends(t, a, []api.SectorWrite{put(i, 1)})
		shows(t, a, numbers{uint64(3 + 2*i), 4, 1, 0, 2 + 2*i})
	}
	if l := a.Candidates(); len(l) != 0 {
		t.Error(l)
	}
	unchanged(t, a, func() {
		gives(t, "Move of the open data block", a.Move(0), api.ErrState)
		gives(t, "Move of the open journal block", a.Move(1), api.ErrState)
	})
	appends(t, a, []api.SectorWrite{trim(0)})
	shows(t, a, numbers{10, 3, 2, 0, 9})
	if l := a.Candidates(); len(l) != 0 {
		t.Error(l)
	}
	appends(t, a, []api.SectorWrite{put(5, 2)})
	shows(t, a, numbers{12, 2, 2, 0, 11})
	if l := a.Candidates(); !slices.Equal(l, []api.Candidate{{Block: 0, Valid: 3, Pages: 4, Age: 5}}) {
		t.Error(l)
	}
	isBlock(t, a, 2, journalPage(delta(9, 8), entry{Sector: 0, Page: -1}), journalPage(delta(11, 9), entry{Sector: 5, Page: 12}))
	isBlock(t, a, 3, dataPage(5, 10, 2))
}

// P10.1: a group of all sectors, with more pages than a block has, in both streams.
func TestAppendAll(t *testing.T) {
	g := api.Geometry{Blocks: 9, Pages: 3, Size: 12, Endurance: 9}
	p := pairOn(t, device(t, g), 8, api.Found{Next: 100})
	var l []api.SectorWrite
	for sector := range 8 {
		l = append(l, api.SectorWrite{Sector: 7 - sector, Data: filled(12, sector)})
	}
	gives(t, "Append", p.append(t, l...), api.OK)
	shows(t, p.a, numbers{116, 3, 3, 0, 16})
	s := api.Spare{Kind: api.SpareDelta, Sequence: 115, Index: 7, Length: 8}
	data, rest, _ := p.a.Device().Read(5, 1)
	if got, e := spare.Decode(rest, data); e != api.OK || got != s {
		t.Errorf("%v, %v, not %v", got, e, s)
	}
}

// P10.1: groups that cannot be appended, with what is wrong at any place, and the order of the errors; nothing is changed.
func TestAppendRefused(t *testing.T) {
	a := made(t)
	appends(t, a, []api.SectorWrite{put(1, 1)}, []api.SectorWrite{put(2, 2)})
	sized := func(sector, n int) api.SectorWrite { return api.SectorWrite{Sector: sector, Data: filled(n, 1)} }
	for _, c := range []struct {
		l []api.SectorWrite
		e api.Errno
	}{
		{nil, api.ErrArg}, {[]api.SectorWrite{}, api.ErrArg},
		{[]api.SectorWrite{put(1, 3), put(1, 4)}, api.ErrArg}, {[]api.SectorWrite{trim(1), trim(1)}, api.ErrArg}, {[]api.SectorWrite{trim(0), trim(0)}, api.ErrArg},
		{[]api.SectorWrite{put(3, 1), put(1, 3), trim(2), put(0, 2), trim(1)}, api.ErrArg}, {[]api.SectorWrite{trim(7), put(1, 3), put(7, 2)}, api.ErrArg},
		{[]api.SectorWrite{sized(1, 1)}, api.ErrArg}, {[]api.SectorWrite{sized(1, 19)}, api.ErrArg}, {[]api.SectorWrite{sized(1, 21)}, api.ErrArg}, {[]api.SectorWrite{sized(1, 40)}, api.ErrArg}, {[]api.SectorWrite{sized(1, 4160)}, api.ErrArg},
		{[]api.SectorWrite{put(0, 1), sized(1, 84)}, api.ErrArg}, {[]api.SectorWrite{sized(0, 12), put(1, 1)}, api.ErrArg},
		{[]api.SectorWrite{put(8, 1)}, api.ErrRange}, {[]api.SectorWrite{put(-1, 1)}, api.ErrRange}, {[]api.SectorWrite{trim(8)}, api.ErrRange}, {[]api.SectorWrite{trim(-1)}, api.ErrRange},
		{[]api.SectorWrite{put(math.MinInt, 1)}, api.ErrRange}, {[]api.SectorWrite{trim(math.MaxInt)}, api.ErrRange}, {[]api.SectorWrite{trim(1<<32 + 1)}, api.ErrRange},
		{[]api.SectorWrite{put(0, 1), put(3, 2), put(9, 1)}, api.ErrRange}, {[]api.SectorWrite{put(9, 1), put(0, 1), trim(3)}, api.ErrRange}, {[]api.SectorWrite{put(9, 1), trim(-4)}, api.ErrRange},
		{[]api.SectorWrite{put(8, 1), put(8, 1)}, api.ErrArg}, {[]api.SectorWrite{put(8, 1), trim(1), trim(1)}, api.ErrArg}, {[]api.SectorWrite{put(8, 1), sized(1, 1)}, api.ErrArg}, {[]api.SectorWrite{sized(-1, 21)}, api.ErrArg}, {[]api.SectorWrite{trim(1), trim(1), put(8, 1)}, api.ErrArg},
	} {
		unchanged(t, a, func() { gives(t, fmt.Sprint("Append", c.l), a.Append(c.l...), c.e) })
	}
}

// P10.1, P10.3: arguments are neither changed nor kept, and what Read returns is independent of the appender.
func TestMemoryNotShared(t *testing.T) {
	a := made(t)
	w := put(1, 1)
	l := []api.SectorWrite{trim(5), w, put(2, 2), trim(6), put(3, 3)}
	before := fmt.Sprint(l)
	appends(t, a, l)
	if s := fmt.Sprint(l); s != before {
		t.Errorf("%s, not %s", s, before)
	}
	unchanged(t, a, func() {
		clear(w.Data)
		clear(l)
		for sector := range 8 {
			b, e := a.Read(sector)
			gives(t, "Read", e, api.OK)
			for i := range b {
				b[i] ^= 0xFF
			}
		}
		entries := a.Entries()
		clear(entries)
		candidates := a.Candidates()
		clear(candidates)
	})
	contains(t, a, 0, 1, 2, 3)
}

// P10.3: Read of mapped, trimmed and never written sectors, and of sectors that do not exist; it changes nothing.
func TestRead(t *testing.T) {
	a := made(t)
	appends(t, a, []api.SectorWrite{put(0, 1), put(7, 2)}, []api.SectorWrite{put(4, 3), put(0, 4)}, []api.SectorWrite{trim(4)})
	unchanged(t, a, func() {
		for range 2 {
			contains(t, a, 4, 0, 0, 0, 0, 0, 0, 2)
			for _, sector := range []int{-1, -2, 8, 9, 24, math.MinInt, math.MaxInt, 1 << 32} {
				cannotRead(t, a, sector, api.ErrRange)
			}
		}
	})
}

// P10.3, P1: an assigned page that cannot be read, because what was found did not say how it is: the device's error.
func TestReadUnreadable(t *testing.T) {
	f := found()
	f.Entries = []entry{{Sector: 0, Page: 2}, {Sector: 1, Page: 16}, {Sector: 2, Page: 0}}
	a := started(t, used(t), 8, f)
	unchanged(t, a, func() {
		cannotRead(t, a, 0, api.ErrErased)
		cannotRead(t, a, 1, api.ErrUnreadable)
		holds(t, a, 2, filled(small.Size, 1))
		gives(t, "Move", a.Move(0), api.ErrErased)
		gives(t, "Move", a.Move(4), api.ErrUnreadable)
	})
}

// P10.1, P10.2, P1: numbers of pages for which there is no record are refused before anything is written, with the error of layer 8.
func TestNumbersUsedUp(t *testing.T) {
	const most = 1 << 63 // the highest first number of a record
	for _, c := range []struct {
		next uint64
		l    []api.SectorWrite
		e    api.Errno
	}{
		{most - 2, []api.SectorWrite{put(1, 1), put(2, 1)}, api.OK}, {most - 1, []api.SectorWrite{put(1, 1), put(2, 1)}, api.ErrArg},
		{most - 1, []api.SectorWrite{put(1, 1)}, api.OK}, {most - 1, []api.SectorWrite{put(1, 1), trim(5)}, api.OK}, {most, []api.SectorWrite{put(1, 1)}, api.ErrArg}, {most + 1, []api.SectorWrite{put(1, 1)}, api.ErrArg},
		{most, []api.SectorWrite{trim(5)}, api.OK}, {most, []api.SectorWrite{trim(5), trim(7)}, api.OK}, {most + 1, []api.SectorWrite{trim(5)}, api.ErrArg}, {most + 1, []api.SectorWrite{trim(6)}, api.OK},
		{math.MaxUint64, []api.SectorWrite{put(1, 1)}, api.ErrArg}, {math.MaxUint64, []api.SectorWrite{put(1, 1), put(2, 1)}, api.ErrArg}, {math.MaxUint64, []api.SectorWrite{trim(5)}, api.ErrArg}, {math.MaxUint64, []api.SectorWrite{trim(6)}, api.OK},
	} {
		f := found()
		f.Next = c.next
		a := started(t, used(t), 8, f)
		before := look(t, a)
		gives(t, fmt.Sprint("Append with the number ", c.next), a.Append(c.l...), c.e)
		if c.e != api.OK && look(t, a) != before {
			t.Errorf("Append with the number %d: something was changed", c.next)
		}
	}
	for next, e := range map[uint64]api.Errno{most - 1: api.OK, most: api.OK, most + 1: api.ErrArg, math.MaxUint64: api.ErrArg} {
		f := found()
		f.Next = next
		a := started(t, used(t), 8, f)
		before := look(t, a)
		gives(t, fmt.Sprint("Checkpoint with the number ", next), a.Checkpoint(), e)
		if e != api.OK && look(t, a) != before {
			t.Errorf("Checkpoint with the number %d: something was changed", next)
		}
	}
	for next, e := range map[uint64]api.Errno{most - 2: api.OK, most - 1: api.ErrArg, math.MaxUint64: api.ErrArg} {
		f := found()
		f.Next = next
		a := started(t, used(t), 8, f)
		before := look(t, a)
		gives(t, fmt.Sprint("Move with the number ", next), a.Move(0), e)
		if e != api.OK && look(t, a) != before {
			t.Errorf("Move with the number %d: something was changed", next)
		}
	}
}
