package appender_test

import (
	"bytes"
	"fmt"
	"math"
	"slices"
	"testing"

	"capsule/api"
	"capsule/appender"
	"capsule/flash"
	"capsule/mapping"
	"capsule/spare"
)

// small is a geometry whose pages have two entries each.
var small = api.Geometry{Blocks: 6, Pages: 4, Size: 20, Endurance: 9}

// entry is short for an entry of the map.
type entry = api.MapEntry

// filled returns the bytes of a sector: those of different seeds differ, and none of them are zero.
func filled(size, seed int) []byte {
	b := make([]byte, size)
	for i := range b {
		b[i] = byte(1 + (seed*31+i)%255)
	}
	return b
}

// put is the change that writes the bytes of a seed to a sector of the geometry small, and trim the one that trims a sector.
func put(sector, seed int) api.SectorWrite {
	return api.SectorWrite{Sector: sector, Data: filled(small.Size, seed)}
}

func trim(sector int) api.SectorWrite {
	return api.SectorWrite{Sector: sector}
}

func device(t *testing.T, g api.Geometry, faults ...int) *flash.Device {
	t.Helper()
	d, e := flash.New(g, faults...)
	if e != api.OK {
		t.Fatalf("flash.New(%v, %v): %v", g, faults, e)
	}
	return d
}

// started returns an appender that starts with what was found.
func started(t *testing.T, d *flash.Device, sectors int, f api.Found) *appender.Appender {
	t.Helper()
	a, e := appender.New(d, sectors, f)
	if a == nil || e != api.OK {
		t.Fatalf("New(%d, %v): %v, %v", sectors, f, a, e)
	}
	return a
}

// made returns an appender of 8 sectors on a new device of the geometry small.
func made(t *testing.T, faults ...int) *appender.Appender {
	t.Helper()
	return started(t, device(t, small, faults...), 8, api.Found{Next: 1})
}

// gives fails the test unless a call has returned this error.
func gives(t *testing.T, what string, got, want api.Errno) {
	t.Helper()
	if got != want {
		t.Errorf("%s: %v, not %v", what, got, want)
	}
}

// appends appends groups, one after the other, and fails the test unless they are accepted.
func appends(t *testing.T, a *appender.Appender, groups ...[]api.SectorWrite) {
	t.Helper()
	for _, l := range groups {
		if e := a.Append(l...); e != api.OK {
			t.Fatalf("Append(%v): %v", l, e)
		}
	}
}

// holds fails the test unless a sector contains these bytes.
func holds(t *testing.T, a *appender.Appender, sector int, want []byte) {
	t.Helper()
	if b, e := a.Read(sector); e != api.OK || !bytes.Equal(b, want) {
		t.Errorf("Read(%d): %x, %v, not %x", sector, b, e, want)
	}
}

// contains fails the test unless the sectors contain the bytes of these seeds, or zero bytes for the seed 0.
func contains(t *testing.T, a *appender.Appender, seeds ...int) {
	t.Helper()
	for sector, seed := range seeds {
		want := make([]byte, a.Device().Geometry().Size)
		if seed != 0 {
			want = filled(len(want), seed)
		}
		holds(t, a, sector, want)
	}
}

// cannotRead fails the test unless Read returns this error and nothing else.
func cannotRead(t *testing.T, a *appender.Appender, sector int, want api.Errno) {
	t.Helper()
	if b, e := a.Read(sector); b != nil || e != want {
		t.Errorf("Read(%d): %x, %v, not %v", sector, b, e, want)
	}
}

// numbers are what an appender shows of its blocks and its pages.
type numbers struct {
	next               uint64
	free, journal, bad int
	operations         int
}

// shows fails the test unless the appender shows these numbers.
func shows(t *testing.T, a *appender.Appender, want numbers) {
	t.Helper()
	if got := (numbers{a.Next(), a.Free(), a.Journal(), a.Bad(), a.Device().Operations()}); got != want {
		t.Errorf("Next, Free, Journal, Bad, operations: %v, not %v", got, want)
	}
}

// assigns fails the test unless the appender's entries are these.
func assigns(t *testing.T, a *appender.Appender, want ...entry) {
	t.Helper()
	if l := a.Entries(); !slices.Equal(l, want) {
		t.Errorf("Entries: %v, not %v", l, want)
	}
}

// page describes what is in a flash page: its state, or the description and the data of an intact page.
func page(t *testing.T, d *flash.Device, block, number int) string {
	t.Helper()
	data, rest, e := d.Read(block, number)
	if e != api.OK {
		return fmt.Sprint(d.State(block, number))
	}
	s, e := spare.Decode(rest, data)
	if e != api.OK {
		return fmt.Sprintf("%d %x %x", d.State(block, number), data, rest)
	}
	return fmt.Sprintf("%v %x", s, data)
}

// look describes all that an appender and its device show, if the power is on.
func look(t *testing.T, a *appender.Appender) string {
	t.Helper()
	d := a.Device()
	text := fmt.Sprint(a.Next(), a.Free(), a.Journal(), a.Bad(), a.Entries(), a.Candidates(), d.Operations(), d.Powered())
	for sector := range 10 {
		data, e := a.Read(sector)
		text += fmt.Sprintf("\nsector %d: %x %d", sector, data, e)
	}
	for block, erases := range d.Wear() {
		text += fmt.Sprint("\nblock ", block, " erases ", erases)
		for number := range d.Geometry().Pages {
			text += "; " + page(t, d, block, number)
		}
	}
	return text
}

// whole describes an appender: what it shows, and what becomes of a copy of it by further calls, which shows its open blocks and the last record, too.
func whole(t *testing.T, a *appender.Appender) string {
	t.Helper()
	text := look(t, a)
	b := a.Copy()
	for i := range 6 {
		e := b.Append(api.SectorWrite{Sector: i % 2, Data: filled(b.Device().Geometry().Size, 200+i)})
		text += fmt.Sprint("\nappended ", e, look(t, b))
	}
	for block := range b.Device().Geometry().Blocks {
		text += fmt.Sprint("\nmoved ", block, b.Move(block), look(t, b))
	}
	return text + fmt.Sprint("\ncheckpoint ", b.Checkpoint(), look(t, b))
}

// unchanged fails the test if the calls change anything in the appender or on its device.
func unchanged(t *testing.T, a *appender.Appender, calls func()) {
	t.Helper()
	before := whole(t, a)
	calls()
	if after := whole(t, a); after != before {
		t.Errorf("something was changed:\n%s\nbefore:\n%s", after, before)
	}
}

// The examples of the chapter.
func TestExamples(t *testing.T) {
	d := device(t, api.Geometry{Blocks: 4, Pages: 4, Size: 12, Endurance: 9})
	a := started(t, d, 3, api.Found{Next: 1})
	x := bytes.Repeat([]byte{0x78}, 12)
	one := api.SectorWrite{Sector: 1, Data: x}
	appends(t, a, []api.SectorWrite{one})
	holds(t, a, 1, x)
	holds(t, a, 0, make([]byte, 12))
	shows(t, a, numbers{3, 2, 1, 0, 2})
	assigns(t, a, entry{Sector: 1, Page: 0})
	gives(t, "a sector twice", a.Append(one, one), api.ErrArg)
	gives(t, "sector 3", a.Append(api.SectorWrite{Sector: 3, Data: x}), api.ErrRange)
	gives(t, "nothing", a.Append(), api.ErrArg)
	gives(t, "one byte", a.Append(api.SectorWrite{Sector: 1, Data: []byte("y")}), api.ErrArg)
	appends(t, a, []api.SectorWrite{trim(1)})
	assigns(t, a)
	holds(t, a, 1, make([]byte, 12))
	shows(t, a, numbers{4, 2, 1, 0, 3})
	gives(t, "Move(0)", a.Move(0), api.ErrState)
	if l := a.Candidates(); len(l) != 0 {
		t.Error(l)
	}
}

// P10.1: New with nothing found, on devices of all sizes, with the lowest and the highest numbers of sectors and of pages.
func TestNew(t *testing.T) {
	for _, g := range []api.Geometry{{Blocks: 2, Pages: 2, Size: 12, Endurance: 1}, small, {Blocks: 4096, Pages: 2, Size: 8192, Endurance: 1 << 20}, {Blocks: 2, Pages: 512, Size: 13, Endurance: 1}} {
		for _, sectors := range []int{1, 2, 1000, mapping.MaxSectors} {
			for _, f := range []api.Found{{Next: 1}, {Next: 7, Last: 6}, {Next: math.MaxUint64, Last: 5}, {Next: 1 << 63}, {Next: 9, Entries: []entry{}, Journal: []int{}, Dirty: []int{}}} {
				d := device(t, g)
				a := started(t, d, sectors, f)
				shows(t, a, numbers{f.Next, g.Blocks, 0, 0, 0})
				assigns(t, a)
				holds(t, a, 0, make([]byte, g.Size))
				holds(t, a, sectors-1, make([]byte, g.Size))
				cannotRead(t, a, sectors, api.ErrRange)
				if l := a.Candidates(); len(l) != 0 || a.Device() != d {
					t.Error(l)
				}
			}
		}
	}
}

// used returns a device of six blocks, of which 0, 1 and 4 have pages that are not erased: pages of data with the numbers 1 and 2, a page of the journal, and an undefined block.
func used(t *testing.T) *flash.Device {
	t.Helper()
	d := device(t, small, 3)
	for i, s := range []api.Spare{{Kind: api.SpareData, Sector: 5, Sequence: 1, Length: 1}, {Kind: api.SpareData, Sector: 7, Sequence: 2, Length: 1}} {
		data := filled(small.Size, 1+i)
		rest, _ := spare.Encode(s, data)
		gives(t, "Program", d.Program(0, i, data, rest), api.OK)
	}
	gives(t, "Program", d.Program(1, 0, filled(small.Size, 3), filled(api.SpareSize, 3)), api.OK)
	gives(t, "Erase", d.Erase(4), api.ErrErase)
	gives(t, "Erase", d.Erase(5), api.OK)
	return d
}

// found is something that fits the device above.
func found() api.Found {
	return api.Found{Entries: []entry{{Sector: 5, Page: 0}, {Sector: 7, Page: 1}}, Last: 3, Next: 4, Journal: []int{1}, Dirty: []int{4, 0}}
}

// P10.1: New with something found that fits: which blocks are full, free and of the journal, and that none is open.
func TestNewFound(t *testing.T) {
	d := used(t)
	a := started(t, d, 8, found())
	shows(t, a, numbers{4, 3, 1, 0, 5})
	assigns(t, a, found().Entries...)
	contains(t, a, 0, 0, 0, 0, 0, 1, 0, 2)
	if l := a.Candidates(); !slices.Equal(l, []api.Candidate{{Block: 0, Valid: 2, Pages: 4, Age: 4}, {Block: 4, Valid: 0, Pages: 4, Age: 4}}) {
		t.Error(l)
	}
	gives(t, "Move of the journal block", a.Move(1), api.ErrState)
	appends(t, a, []api.SectorWrite{put(5, 9)})
	assigns(t, a, entry{Sector: 5, Page: 8}, entry{Sector: 7, Page: 1}) // block 5 has been erased, so 2 and 3 come first
	shows(t, a, numbers{6, 1, 2, 0, 7})
	if s := page(t, d, 3, 0); s != fmt.Sprintf("%v %x", api.Spare{Kind: api.SpareDelta, Sequence: 5, Prev: 3, Length: 1}, append([]byte{1, 0, 0, 0, 5, 0, 0, 0, 9}, make([]byte, 11)...)) {
		t.Error(s)
	}
	gives(t, "Move of the undefined block", a.Move(4), api.OK)
	shows(t, a, numbers{6, 2, 2, 0, 8})
	gives(t, "Move of the data block", a.Move(0), api.OK)
	assigns(t, a, entry{Sector: 5, Page: 8}, entry{Sector: 7, Page: 9})
	contains(t, a, 0, 0, 0, 0, 0, 9, 0, 2)
}

// P10.1: what was found may name pages of any block of Dirty, blocks that are erased, and a sector twice, as the map accepts that.
func TestNewFoundOtherwise(t *testing.T) {
	f := found()
	f.Dirty = []int{0, 2, 4}
	f.Journal = []int{5, 1}
	f.Entries = []entry{{Sector: 7, Page: 1}, {Sector: 5, Page: 11}, {Sector: 0, Page: 19}, {Sector: 5, Page: 0}}
	a := started(t, used(t), 8, f)
	shows(t, a, numbers{4, 1, 2, 0, 5})
	assigns(t, a, entry{Sector: 0, Page: 19}, entry{Sector: 5, Page: 0}, entry{Sector: 7, Page: 1})
}

// refused fails the test unless New returns this error and no appender.
func refused(t *testing.T, what string, d *flash.Device, sectors int, f api.Found, want api.Errno) {
	t.Helper()
	if a, e := appender.New(d, sectors, f); a != nil || e != want {
		t.Errorf("New, %s: %v, %v, not %v", what, a, e, want)
	}
}

// off returns a copy of the device with its power off, which has left a block undefined.
func off(t *testing.T, d *flash.Device, block int) *flash.Device {
	t.Helper()
	c := d.Copy()
	gives(t, "Cut", c.Cut(c.Operations(), 0), api.OK)
	gives(t, "Erase", c.Erase(block), api.ErrPower)
	return c
}

// P10.1, P1: New without a device, with a number of sectors that no map has, on pages without room for an entry, and without power; and the order of these errors.
func TestNewRefused(t *testing.T) {
	d, f := device(t, small), api.Found{Next: 1}
	for _, none := range []*flash.Device{nil, {}} {
		refused(t, "no device", none, 8, f, api.ErrNil)
		refused(t, "no device and no sectors", none, 0, f, api.ErrNil)
		refused(t, "no device and a block that does not exist", none, 8, api.Found{Next: 1, Dirty: []int{9}}, api.ErrNil)
	}
	shut, g := off(t, d, 5), api.Found{Next: 1, Dirty: []int{5}}
	for _, sectors := range []int{0, -1, math.MinInt, mapping.MaxSectors + 1, math.MaxInt} {
		refused(t, fmt.Sprint(sectors, " sectors"), d, sectors, f, api.ErrArg)
		refused(t, fmt.Sprint(sectors, " sectors and no power"), shut, sectors, g, api.ErrArg)
	}
	for size := 1; size < 12; size++ {
		tiny := small
		tiny.Size = size
		refused(t, fmt.Sprint(size, " bytes"), device(t, tiny), 8, f, api.ErrArg)
		refused(t, fmt.Sprint(size, " bytes and no power"), off(t, device(t, tiny), 5), 8, g, api.ErrArg)
	}
	refused(t, "nothing that fits and no power", shut, 8, api.Found{Dirty: []int{5}}, api.ErrArg)
	refused(t, "no power", shut, 8, g, api.ErrPower)
	gives(t, "Restart", shut.Restart(), api.OK)
	started(t, shut, 8, g)
}

// P10.1: New with something found that does not fit, in each of the ways that the chapter names.
func TestNewFoundRefused(t *testing.T) {
	change := func(name string, set func(*api.Found)) {
		t.Helper()
		f, d := found(), used(t)
		set(&f)
		refused(t, name, d, 8, f, api.ErrArg)
		refused(t, name+", and no power", off(t, d, 4), 8, f, api.ErrArg)
	}
	refused(t, "no power", off(t, used(t), 4), 8, found(), api.ErrPower)
	for _, block := range []int{-1, 6, 7, math.MinInt, math.MaxInt, 1 << 32} {
		change(fmt.Sprint("journal block ", block), func(f *api.Found) { f.Journal = append(f.Journal, block) })
		change(fmt.Sprint("journal block ", block, ", first"), func(f *api.Found) { f.Journal = append([]int{block}, f.Journal...) })
		change(fmt.Sprint("dirty block ", block), func(f *api.Found) { f.Dirty = append(f.Dirty, block) })
		change(fmt.Sprint("dirty block ", block, ", first"), func(f *api.Found) { f.Dirty = append([]int{block}, f.Dirty...) })
	}
	change("a journal block twice", func(f *api.Found) { f.Journal = []int{1, 1} })
	change("another journal block twice", func(f *api.Found) { f.Journal = []int{2, 1, 2} })
	change("a dirty block twice", func(f *api.Found) { f.Dirty = []int{0, 4, 0} })
	change("an erased dirty block twice", func(f *api.Found) { f.Dirty = []int{0, 4, 3, 3} })
	change("a block in both lists", func(f *api.Found) { f.Dirty = []int{0, 1, 4} })
	change("another block in both lists", func(f *api.Found) { f.Journal = []int{1, 4} })
	change("a block with programmed pages that is not listed", func(f *api.Found) { f.Journal = nil })
	change("a block with pages in use that is not listed", func(f *api.Found) { f.Dirty = []int{4}; f.Entries = nil })
	change("an undefined block that is not listed", func(f *api.Found) { f.Dirty = []int{0} })
	change("nothing but a number", func(f *api.Found) { *f = api.Found{Next: 4} })
	for _, sector := range []int{-1, 8, math.MinInt, math.MaxInt} {
		change(fmt.Sprint("sector ", sector), func(f *api.Found) { f.Entries = append(f.Entries, entry{Sector: sector, Page: 2}) })
		change(fmt.Sprint("sector ", sector, ", first"), func(f *api.Found) { f.Entries = append([]entry{{Sector: sector, Page: 2}}, f.Entries...) })
	}
	for _, number := range []int{-1, -2, 4, 7, 8, 12, 15, 20, 23, 24, math.MinInt, math.MaxInt} {
		change(fmt.Sprint("page ", number), func(f *api.Found) { f.Entries = append(f.Entries, entry{Sector: 1, Page: number}) })
		change(fmt.Sprint("page ", number, ", and then another one"), func(f *api.Found) { f.Entries = []entry{{Sector: 1, Page: number}, {Sector: 1, Page: 2}} })
	}
	change("two sectors on one page", func(f *api.Found) { f.Entries = append(f.Entries, entry{Sector: 1, Page: 1}) })
	change("two sectors on one page, one after the other", func(f *api.Found) {
		f.Entries = append(f.Entries, entry{Sector: 1, Page: 1}, entry{Sector: 7, Page: 2})
	})
	for _, n := range [][2]uint64{{0, 0}, {3, 3}, {3, 2}, {math.MaxUint64, math.MaxUint64}, {math.MaxUint64, 0}, {1 << 63, 1 << 32}} {
		change(fmt.Sprint("Last and Next ", n), func(f *api.Found) { f.Last, f.Next = n[0], n[1] })
	}
}

// P10.1: a block with a page of any state that is not erased has to be listed.
func TestNewStates(t *testing.T) {
	for _, c := range []struct {
		state  api.PageState
		faults []int
		bytes  int
		erase  bool
	}{{api.PageProgrammed, nil, -1, false}, {api.PageFailed, []int{0}, -1, false}, {api.PageTorn, nil, 3, false}, {api.PageUndefined, []int{0}, -1, true}, {api.PageUndefined, nil, 0, true}} {
		d := device(t, small, c.faults...)
		if c.bytes >= 0 {
			gives(t, "Cut", d.Cut(0, c.bytes), api.OK)
		}
		if c.erase {
			d.Erase(2)
		} else {
			d.Program(2, 0, make([]byte, small.Size), make([]byte, api.SpareSize))
		}
		gives(t, "Restart", d.Restart(), api.OK)
		if s := d.State(2, 0); s != c.state {
			t.Fatalf("%v, not %v", s, c.state)
		}
		refused(t, fmt.Sprint("a page in state ", c.state), d, 8, api.Found{Next: 1}, api.ErrArg)
		refused(t, fmt.Sprint("a page in state ", c.state, ", and another block"), d, 8, api.Found{Next: 1, Dirty: []int{1, 3}}, api.ErrArg)
		shows(t, started(t, d, 8, api.Found{Next: 1, Dirty: []int{2}}), numbers{1, 5, 0, 0, 1})
		shows(t, started(t, d, 8, api.Found{Next: 1, Journal: []int{2}}), numbers{1, 5, 1, 0, 1})
	}
}

// P10.1: New keeps nothing of what was found, and changes nothing of it.
func TestNewKeepsNothing(t *testing.T) {
	f := found()
	a := started(t, used(t), 8, f)
	if g := found(); !slices.Equal(f.Entries, g.Entries) || !slices.Equal(f.Journal, g.Journal) || !slices.Equal(f.Dirty, g.Dirty) {
		t.Errorf("changed: %v", f)
	}
	unchanged(t, a, func() {
		f.Entries[0], f.Journal[0], f.Dirty[0] = entry{Sector: 1, Page: 3}, 3, 3
	})
}

// P10.1: New does not change the device.
func TestNewReadsOnly(t *testing.T) {
	d := used(t)
	before := d.Operations()
	text := look(t, started(t, d.Copy(), 8, found()))
	started(t, d, 8, found())
	if after := look(t, started(t, d, 8, found())); after != text || d.Operations() != before {
		t.Errorf("%s\nnot\n%s", after, text)
	}
}
