package recovery_test

import (
	"bytes"
	"fmt"
	"math"
	"slices"
	"testing"

	"capsule/api"
	"capsule/appender"
	"capsule/flash"
	"capsule/journal"
	"capsule/mapping"
	"capsule/recovery"
	"capsule/spare"
)

// small is a geometry whose pages have two entries each.
var small = api.Geometry{Blocks: 6, Pages: 4, Size: 20, Endurance: 9}

// entry is short for an entry of the map.
type entry = api.MapEntry

// filled returns the bytes of a sector: those of different seeds differ, and they are not the data of a page with entries.
func filled(size, seed int) []byte {
	b := make([]byte, size)
	for i := range b {
		b[i] = byte(1 + (seed*31+i)%255)
	}
	return b
}

func device(t *testing.T, g api.Geometry, faults ...int) *flash.Device {
	t.Helper()
	d, e := flash.New(g, faults...)
	if e != api.OK {
		t.Fatalf("flash.New(%v, %v): %v", g, faults, e)
	}
	return d
}

// started returns an appender that starts with what was found.
func started(t *testing.T, d *flash.Device, sectors int, f api.Found) *appender.Appender {
	t.Helper()
	a, e := appender.New(d, sectors, f)
	if a == nil || e != api.OK {
		t.Fatalf("appender.New(%d, %v): %v, %v", sectors, f, a, e)
	}
	return a
}

func gives(t *testing.T, what string, got, want api.Errno) {
	t.Helper()
	if got != want {
		t.Errorf("%s: %v, not %v", what, got, want)
	}
}

// step is something that is done to the next page of a block, or to the block.
type step struct {
	block      int
	data, rest []byte
	torn       int // how many bytes are programmed before the power is cut, or 0: it is not cut
	want       api.Errno
}

// content returns the step that programs these data with their right description.
func content(block int, s api.Spare, data []byte) step {
	rest, e := spare.Encode(s, data)
	if e != api.OK {
		panic(fmt.Sprint(s, " is not valid"))
	}
	return step{block: block, data: data, rest: rest}
}

// data returns the step that programs a page of data.
func data(block, sector int, number uint64) step {
	return content(block, api.Spare{Kind: api.SpareData, Sector: sector, Sequence: number, Length: 1}, filled(small.Size, int(number%1000)))
}

// delta and checkpoint return the step that programs a record of one page; deltaPart and checkpointPart one that programs a page of a longer record.
func delta(block int, number, prev uint64, l ...entry) step {
	return deltaPart(block, number, prev, 0, 1, l...)
}

func checkpoint(block int, number, prev uint64, l ...entry) step {
	return checkpointPart(block, number, prev, 0, 1, l...)
}

func deltaPart(block int, number, prev uint64, index, length int, l ...entry) step {
	return part(block, api.Spare{Kind: api.SpareDelta, Sequence: number, Prev: prev, Index: index, Length: length}, l...)
}

func checkpointPart(block int, number, prev uint64, index, length int, l ...entry) step {
	return part(block, api.Spare{Kind: api.SpareCheckpoint, Sequence: number, Prev: prev, Index: index, Length: length}, l...)
}

func part(block int, s api.Spare, l ...entry) step {
	b, e := journal.Encode(small.Size, l...)
	if e != api.OK {
		panic(fmt.Sprint(l, " cannot be encoded"))
	}
	return content(block, s, b)
}

// cut returns a step that the power interrupts after so many bytes.
func (s step) cut(n int) step {
	s.torn, s.want = n, api.ErrPower
	return s
}

// failing returns a step that fails.
func (s step) failing(e api.Errno) step {
	s.want = e
	return s
}

// erased returns the step that erases a block.
func erased(block int) step {
	return step{block: block}
}

// done does the steps on a device, and switches its power on again after each cut.
func done(t *testing.T, d *flash.Device, steps ...step) *flash.Device {
	t.Helper()
	for i, s := range steps {
		if s.want == api.ErrPower {
			gives(t, fmt.Sprint("step ", i, ": Cut"), d.Cut(d.Operations(), s.torn), api.OK)
		}
		if s.data == nil {
			gives(t, fmt.Sprint("step ", i, ": Erase"), d.Erase(s.block), s.want)
		} else {
			gives(t, fmt.Sprint("step ", i, ": Program"), d.Program(s.block, d.Next(s.block), s.data, s.rest), s.want)
		}
		if s.want == api.ErrPower {
			gives(t, fmt.Sprint("step ", i, ": Restart"), d.Restart(), api.OK)
		}
	}
	return d
}

// equal reports whether two findings are the same; lists without elements are.
func equal(f, g api.Found) bool {
	return slices.Equal(f.Entries, g.Entries) && f.Last == g.Last && f.Next == g.Next && slices.Equal(f.Journal, g.Journal) && slices.Equal(f.Dirty, g.Dirty)
}

// finds fails the test unless this is found on a device, which stays as it is.
func finds(t *testing.T, d *flash.Device, sectors int, want api.Found) {
	t.Helper()
	before := look(t, d)
	for range 2 {
		if f, e := recovery.Scan(d, sectors); e != api.OK || !equal(f, want) {
			t.Errorf("Scan(%d): %+v, %v, not %+v", sectors, f, e, want)
		}
	}
	if after := look(t, d); after != before {
		t.Errorf("Scan has changed the device:\n%s\nbefore:\n%s", after, before)
	}
}

// cannot fails the test unless Scan returns this error and nothing else, and the device stays as it is.
func cannot(t *testing.T, d *flash.Device, sectors int, want api.Errno) {
	t.Helper()
	before := look(t, d)
	f, e := recovery.Scan(d, sectors)
	if e != want || f.Entries != nil || f.Journal != nil || f.Dirty != nil || f.Last != 0 || f.Next != 0 {
		t.Errorf("Scan(%d): %+v, %v, not %v", sectors, f, e, want)
	}
	if after := look(t, d); after != before {
		t.Errorf("Scan has changed the device:\n%s\nbefore:\n%s", after, before)
	}
}

// look describes a device: what it shows, its pages, also if the power is off, and when the next power cut and the next failures come.
func look(t *testing.T, d *flash.Device) string {
	t.Helper()
	text := fmt.Sprint(d.Geometry(), d.Powered(), d.Operations(), pages(t, d))
	for c, block := d.Copy(), 0; c != nil && block < c.Geometry().Blocks; block++ {
		text += fmt.Sprint("\nerases of ", block, " ", c.Erases(block), " then ", c.Erase(block), c.Powered())
	}
	return text
}

// pages describes the pages of a device, also if the power is off.
func pages(t *testing.T, d *flash.Device) string {
	t.Helper()
	c, text := d.Copy(), ""
	if c == nil {
		return "nothing"
	}
	gives(t, "Restart", c.Restart(), api.OK)
	for block := range c.Geometry().Blocks {
		text += fmt.Sprint("\nblock ", block, ":")
		for place := range c.Next(block) {
			data, rest, e := c.Read(block, place)
			text += fmt.Sprintf(" %d %d %x %x;", c.State(block, place), e, data, rest)
		}
	}
	return text
}

// counts fails the test unless Count returns these numbers.
func counts(t *testing.T, d *flash.Device, data, journal, other int) {
	t.Helper()
	if p, q, r := recovery.Count(d); p != data || q != journal || r != other {
		t.Errorf("Count: %d, %d, %d, not %d, %d, %d", p, q, r, data, journal, other)
	}
}

// P11.1, P11.2: the examples of the chapter.
func TestExamples(t *testing.T) {
	d := device(t, api.Geometry{Blocks: 4, Pages: 4, Size: 12, Endurance: 9})
	finds(t, d, 3, api.Found{Next: 1})
	a := started(t, d, 3, api.Found{Next: 1})
	x := bytes.Repeat([]byte("x"), 12)
	gives(t, "Append", a.Append(api.SectorWrite{Sector: 1, Data: x}), api.OK)
	gives(t, "Append", a.Append(api.SectorWrite{Sector: 1, Data: x}, api.SectorWrite{Sector: 2, Data: x}), api.OK)
	finds(t, d, 3, api.Found{Entries: []entry{{Sector: 1, Page: 1}, {Sector: 2, Page: 2}}, Last: 6, Next: 7, Journal: []int{1}, Dirty: []int{0}})
	counts(t, d, 3, 3, 0)
	cannot(t, d, 2, api.ErrFormat)
	cannot(t, d, 0, api.ErrArg)
}

// P11.1, P11.2: new devices of all sizes, also with pages that are too small for the journal.
func TestNewDevice(t *testing.T) {
	for _, g := range []api.Geometry{small, {Blocks: 2, Pages: 2, Size: 1, Endurance: 1}, {Blocks: 4096, Pages: 512, Size: 8192, Endurance: 1 << 20}, {Blocks: 2, Pages: 512, Size: 11, Endurance: 1}, {Blocks: 4096, Pages: 2, Size: 12, Endurance: 1}} {
		d := device(t, g)
		for _, sectors := range []int{1, 2, 1000, mapping.MaxSectors} {
			if f, e := recovery.Scan(d, sectors); e != api.OK || !equal(f, api.Found{Next: 1}) {
				t.Errorf("%v: %v, %v", g, f, e)
			}
		}
		counts(t, d, 0, 0, 0)
		for number, s := range recovery.Pages(d) {
			t.Errorf("%v: page %d, %v", g, number, s)
		}
		if d.Operations() != 0 {
			t.Errorf("%v: %d operations", g, d.Operations())
		}
	}
}

// P11.1: a nil and a zero device, numbers of sectors that are not valid, and a device without power; which error comes first.
func TestErrors(t *testing.T) {
	wrong := []int{0, -1, mapping.MaxSectors + 1, math.MinInt, math.MaxInt}
	for _, d := range []*flash.Device{nil, {}} {
		for _, sectors := range append(wrong, 1, 8, mapping.MaxSectors) {
			if f, e := recovery.Scan(d, sectors); e != api.ErrNil || !equal(f, api.Found{}) {
				t.Errorf("Scan(%d): %v, %v", sectors, f, e)
			}
		}
	}
	bad := []step{delta(0, 1, 0, entry{Sector: 1, Page: 20})}
	for _, steps := range [][]step{nil, {data(2, 5, 1), delta(0, 2, 0, entry{Sector: 5, Page: 8})}, bad} {
		d := done(t, device(t, small), steps...)
		for _, sectors := range wrong {
			cannot(t, d, sectors, api.ErrArg)
		}
		off(t, d)
		for _, sectors := range wrong {
			cannot(t, d, sectors, api.ErrArg)
		}
		for _, sectors := range []int{1, 8, mapping.MaxSectors} {
			cannot(t, d, sectors, api.ErrPower)
		}
	}
	cannot(t, done(t, device(t, small), bad...), 8, api.ErrFormat)
}

// off switches the power off while a block is erased that is erased already.
func off(t *testing.T, d *flash.Device) {
	t.Helper()
	block := d.Geometry().Blocks - 1
	gives(t, "Cut", d.Cut(d.Operations(), 3), api.OK)
	gives(t, "Erase", d.Erase(block), api.ErrPower)
}

// P11.1: Scan leaves pending cuts and failures as they are, and what it returns is independent of the device.
func TestSharesNothing(t *testing.T) {
	d := done(t, device(t, small, 4), data(0, 5, 1), data(0, 3, 2), delta(1, 3, 0, entry{Sector: 5, Page: 0}, entry{Sector: 3, Page: 1}), data(4, 5, 4))
	want := api.Found{Entries: []entry{{Sector: 3, Page: 1}, {Sector: 5, Page: 0}}, Last: 3, Next: 5, Journal: []int{1}, Dirty: []int{0, 4}}
	finds(t, d, 8, want)
	gives(t, "Cut", d.Cut(5, 7), api.OK)
	f, e := recovery.Scan(d, 8)
	gives(t, "Scan", e, api.OK)
	clear(f.Entries)
	clear(f.Journal)
	clear(f.Dirty)
	_ = append(f.Journal, 7, 7)
	if f.Dirty[0] != 0 || f.Dirty[1] != 0 {
		t.Error("Journal and Dirty share memory")
	}
	finds(t, d, 8, want)
	x := data(3, 1, 5)
	gives(t, "the failing operation", d.Program(3, 0, x.data, x.rest), api.ErrProgram)
	gives(t, "the interrupted operation", d.Program(3, 1, x.data, x.rest), api.ErrPower)
	cannot(t, d, 8, api.ErrPower)
}
