package recovery_test

import (
	"iter"
	"slices"
	"testing"

	"capsule/api"
	"capsule/flash"
	"capsule/recovery"
)

// seen is what Pages yields of a page.
type seen struct {
	number int
	s      api.Spare
}

func collected(pages iter.Seq2[int, api.Spare]) []seen {
	var l []seen
	for number, s := range pages {
		l = append(l, seen{number, s})
	}
	return l
}

// yields fails the test unless Pages yields these pages, and leaves the device as it is.
func yields(t *testing.T, d *flash.Device, want ...seen) {
	t.Helper()
	before := look(t, d)
	if l := collected(recovery.Pages(d)); !slices.Equal(l, want) {
		t.Errorf("Pages: %v, not %v", l, want)
	}
	if after := look(t, d); after != before {
		t.Errorf("Pages has changed the device:\n%s\nbefore:\n%s", after, before)
	}
}

// some returns a device with pages of all kinds, intact and not, and what Pages yields for it.
func some(t *testing.T) (*flash.Device, []seen) {
	t.Helper()
	d := done(t, device(t, small, 5),
		data(3, 1, 9), raw(3, 1), data(3, api.MaxSector, 3),
		delta(1, 7, 2, at(1, 100)), data(1, 5, 4).cut(50),
		data(1, 6, 8).failing(api.ErrProgram), checkpointPart(1, 20, 3, 4, 9),
		data(4, 1, 1), erased(4).cut(0),
		content(0, api.Spare{Kind: api.SpareCheckpoint, Sequence: 5, Length: 1}, filled(small.Size, 1)), delta(0, 11, 2).changed(3), deltaPart(0, 1<<64-1, 1<<63, 1, 2), data(0, 1, 9),
		data(5, 7, 1), erased(5))
	return d, []seen{
		{0, api.Spare{Kind: api.SpareCheckpoint, Sequence: 5, Length: 1}},
		{2, api.Spare{Kind: api.SpareDelta, Sequence: 1<<64 - 1, Prev: 1 << 63, Index: 1, Length: 2}},
		{3, api.Spare{Kind: api.SpareData, Sector: 1, Sequence: 9, Length: 1}},
		{4, api.Spare{Kind: api.SpareDelta, Sequence: 7, Prev: 2, Length: 1}},
		{7, api.Spare{Kind: api.SpareCheckpoint, Sequence: 20, Prev: 3, Index: 4, Length: 9}},
		{12, api.Spare{Kind: api.SpareData, Sector: 1, Sequence: 9, Length: 1}},
		{14, api.Spare{Kind: api.SpareData, Sector: api.MaxSector, Sequence: 3, Length: 1}},
	}
}

// P11.2: Pages yields the intact pages of all kinds by increasing number, whether they are journal pages or not, and no others.
func TestPages(t *testing.T) {
	d, want := some(t)
	yields(t, d, want...)
	full := device(t, api.Geometry{Blocks: 3, Pages: 2, Size: small.Size, Endurance: 1})
	var all []seen
	for i := range 6 {
		s := data(2-i/2, i, uint64(i+1))
		done(t, full, s)
		all = append(all, seen{2*(2-i/2) + i%2, api.Spare{Kind: api.SpareData, Sector: i, Sequence: uint64(i + 1), Length: 1}})
	}
	slices.SortFunc(all, func(a, b seen) int { return a.number - b.number })
	yields(t, full, all...)
	counts(t, full, 6, 0, 0)
}

// P11.2: the loop may stop early, at each page, and the iterator may be used again, also inside of its own loop.
func TestPagesStopped(t *testing.T) {
	d, want := some(t)
	pages := recovery.Pages(d)
	for n := range len(want) + 1 {
		var l []seen
		for number, s := range pages {
			if len(l) == n {
				break
			}
			l = append(l, seen{number, s})
		}
		if !slices.Equal(l, want[:n]) {
			t.Errorf("%v, not %v", l, want[:n])
		}
		calls := 0
		pages(func(int, api.Spare) bool {
			calls++
			return calls <= n
		})
		if calls != min(n+1, len(want)) {
			t.Errorf("%d calls, not %d", calls, n+1)
		}
	}
	for range 2 {
		if l := collected(pages); !slices.Equal(l, want) {
			t.Errorf("%v, not %v", l, want)
		}
	}
	for range pages {
		if l := collected(pages); !slices.Equal(l, want) {
			t.Errorf("%v, not %v", l, want)
		}
	}
}

// P11.2: the iterator yields the pages as they were when Pages was called, whatever has happened to the device since, also inside of the loop.
func TestPagesOfThen(t *testing.T) {
	d, want := some(t)
	then := recovery.Pages(d)
	done(t, d, data(5, 3, 30), erased(0), data(0, 4, 31), erased(3).cut(0))
	now := recovery.Pages(d)
	off(t, d)
	later := []seen{
		{0, api.Spare{Kind: api.SpareData, Sector: 4, Sequence: 31, Length: 1}},
		want[3], want[4],
		{20, api.Spare{Kind: api.SpareData, Sector: 3, Sequence: 30, Length: 1}},
	}
	without := recovery.Pages(d)
	for range 2 {
		if l := collected(then); !slices.Equal(l, want) {
			t.Errorf("%v, not %v", l, want)
		}
		if l := collected(now); !slices.Equal(l, later) {
			t.Errorf("%v, not %v", l, later)
		}
		if l := collected(without); l != nil {
			t.Errorf("without power: %v", l)
		}
		gives(t, "Restart", d.Restart(), api.OK)
	}
	yields(t, d, later[:3]...)
	var l []seen
	for number, s := range recovery.Pages(d) {
		gives(t, "Erase", d.Erase(1), api.OK)
		l = append(l, seen{number, s})
	}
	if !slices.Equal(l, later[:3]) {
		t.Errorf("%v, not %v", l, later[:3])
	}
	yields(t, d, later[0])
}

// P11.2: Count with pages of each kind, intact and not, and after some of them are erased. It leaves the device as it is.
func TestCount(t *testing.T) {
	d, _ := some(t)
	before := look(t, d)
	counts(t, d, 3, 3, 9)
	if after := look(t, d); after != before {
		t.Errorf("Count has changed the device:\n%s\nbefore:\n%s", after, before)
	}
	for _, c := range []struct{ block, data, journal, other int }{{4, 3, 3, 5}, {0, 2, 2, 3}, {3, 0, 2, 2}, {1, 0, 0, 0}} {
		counts(t, done(t, d, erased(c.block)), c.data, c.journal, c.other)
	}
	for i, c := range []struct {
		s                    step
		data, journal, other int
	}{
		{data(0, 1<<30, 1<<63), 1, 0, 0}, {delta(0, 9, 8, at(1<<20, 1<<20)), 0, 1, 0}, {deltaPart(0, 9, 1, 5, 9), 0, 1, 0}, {checkpoint(0, 1, 0), 0, 1, 0},
		{raw(0, 1), 0, 0, 1}, {data(0, 1, 1).changed(0), 0, 0, 1}, {delta(0, 1, 0).changed(83), 0, 0, 1}, {data(0, 1, 1).cut(83), 0, 0, 1}, {data(0, 1, 1).cut(0), 0, 0, 1}, {data(0, 1, 1).cut(84), 1, 0, 0}, {delta(0, 1, 0).cut(84), 0, 1, 0},
		{content(0, api.Spare{Kind: api.SpareDelta, Sequence: 1, Length: 1}, filled(small.Size, 1)), 0, 0, 1}, {erased(0).cut(0), 0, 0, 4}, {erased(0), 0, 0, 0},
	} {
		d := done(t, device(t, small), c.s)
		if p, q, r := recovery.Count(d); p != c.data || q != c.journal || r != c.other {
			t.Errorf("case %d: %d, %d, %d", i, p, q, r)
		}
	}
}

// P11.2: a nil and a zero device, and one without power, have no pages.
func TestNoPages(t *testing.T) {
	d, want := some(t)
	off(t, d)
	for _, x := range []*flash.Device{nil, {}, d} {
		pages := recovery.Pages(x)
		for range 2 {
			if l := collected(pages); l != nil {
				t.Errorf("%v", l)
			}
		}
		counts(t, x, 0, 0, 0)
	}
	gives(t, "Restart", d.Restart(), api.OK)
	yields(t, d, want...)
	counts(t, d, 3, 3, 13)
}
