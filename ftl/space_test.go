package ftl_test

import (
	"fmt"
	"math/rand/v2"
	"testing"

	"capsule/api"
	"capsule/ftl"
)

// load returns the groups of a way of using a disk.
type load func(r *rand.Rand, i, sectors, group int) []int

// loads are ways of using a disk, by their names.
func loads() map[string]load {
	return map[string]load{
		"in order":  func(_ *rand.Rand, i, sectors, _ int) []int { return []int{i % sectors} },
		"in groups": func(_ *rand.Rand, i, sectors, group int) []int { return some(i*group, sectors, group) },
		"random":    func(r *rand.Rand, _, sectors, _ int) []int { return []int{r.IntN(sectors)} },
		"random groups": func(r *rand.Rand, _, sectors, group int) []int {
			return some(r.IntN(sectors), sectors, 1+r.IntN(group))
		},
		"one":  func(_ *rand.Rand, _, _, _ int) []int { return []int{0} },
		"hot":  func(r *rand.Rand, _, sectors, _ int) []int { return []int{r.IntN(1 + r.IntN(1+r.IntN(sectors)))} },
		"last": func(_ *rand.Rand, i, sectors, _ int) []int { return []int{sectors - 1 - i*i%min(3, sectors)} },
	}
}

// some returns sectors from a first one on, all of them different.
func some(first, sectors, group int) []int {
	var l []int
	for k := range min(group, sectors) {
		l = append(l, (first+k)%sectors)
	}
	return l
}

// tight are configurations with the smallest devices that they fit.
func tight() []struct {
	g api.Geometry
	c api.FTLConfig
} {
	type entry = struct {
		g api.Geometry
		c api.FTLConfig
	}
	var l []entry
	for _, g := range []api.Geometry{{Pages: 2, Size: 12}, {Pages: 3, Size: 20}, {Pages: 8, Size: 16}, {Pages: 4, Size: 100}} {
		for _, sectors := range []int{1, 2, 7, 50} {
			g.Endurance = 1 << 20
			c := api.FTLConfig{Sectors: sectors, Spare: sectors % 3, MaxGroup: g.Pages}
			l = append(l, entry{fitted(g, c), c})
		}
	}
	return l
}

// P12.2, P12.3: many more writes than the device has pages, on the smallest devices that fit, with all sectors in use: there is always room.
func TestSpace(t *testing.T) {
	for name, of := range loads() {
		t.Run(name, func(t *testing.T) {
			for _, s := range tight() {
				r := rand.New(rand.NewPCG(15, 1))
				f := layer(t, device(t, s.g), s.c)
				contents := make([][]byte, s.c.Sectors)
				for i := range s.c.Sectors + 3*s.g.Blocks*s.g.Pages {
					sectors := []int{i}
					if i >= s.c.Sectors {
						sectors = of(r, i, s.c.Sectors, s.c.MaxGroup)
					}
					var l []api.SectorWrite
					for _, sector := range sectors {
						l = append(l, put(s.g.Size, sector, i))
					}
					if e := f.Write(l...); e != api.OK {
						t.Fatalf("%+v, %+v: %v at group %d", s.g, s.c, e, i)
					}
					contents = changed(contents, l)
				}
				for sector, want := range contents {
					holds(t, f, sector, want)
				}
				lasts(t, f, contents)
				if f.Spare() != s.c.Spare {
					t.Errorf("Spare %d", f.Spare())
				}
				if _, most := f.Wear(); most == 0 {
					t.Error("no block was erased")
				}
			}
		})
	}
}

// P12.2: trimming everything again and again takes room, too; so does a restart after each call.
func TestSpaceTrim(t *testing.T) {
	for _, s := range tight() {
		p := pairOn(t, device(t, s.g), s.c, make([][]byte, s.c.Sectors))
		for i := range 3 * s.g.Blocks {
			gives(t, "Write", p.write(t, put(s.g.Size, i%s.c.Sectors, i)), api.OK)
			if i%5 == 4 {
				gives(t, "Trim", p.trim(t, 0, s.c.Sectors), api.OK)
			}
			if i%3 == 0 {
				p.restart(t)
			}
			if t.Failed() {
				t.Fatalf("%+v, %+v: call %d", s.g, s.c, i)
			}
		}
	}
}

// P12.2, P12.5: as many operations fail as there are spare blocks, one after the other, at any time: the layer is never read-only, and nothing is lost. Without another failure, that is not changed by restarts.
func TestSpareBlocks(t *testing.T) {
	t.Parallel()
	for run := range 60 {
		r := rand.New(rand.NewPCG(16, uint64(run)))
		c := api.FTLConfig{Sectors: 1 + r.IntN(30), Spare: r.IntN(14), Cache: r.IntN(3)}
		g := api.Geometry{Pages: 2 + r.IntN(4), Size: 12 + r.IntN(20), Endurance: 1 << 20}
		c.MaxGroup = g.Pages
		g = fitted(g, c)
		first, gap := r.IntN(1500), 1+r.IntN(8)
		var faults []int
		for i := range c.Spare {
			faults = append(faults, first+i*gap)
		}
		p := pairOn(t, device(t, g, faults...), c, make([][]byte, c.Sectors), faults...)
		for i := range 300 {
			var l []api.SectorWrite
			for _, sector := range some(r.IntN(c.Sectors), c.Sectors, 1+r.IntN(c.MaxGroup)) {
				l = append(l, put(g.Size, sector, i))
			}
			gives(t, "Write", p.write(t, l...), api.OK)
			if run%4 == 3 && i%11 == 0 {
				p.restart(t)
			}
		}
		if t.Failed() {
			t.Fatalf("run %d: %+v, %+v", run, g, c)
		}
		if p.m.failed < c.Spare && first+c.Spare*gap < p.m.d.Operations() {
			t.Errorf("run %d: only %d of %d operations have failed", run, p.m.failed, c.Spare)
		}
	}
}

// spares fails the test unless so many blocks may still become bad.
func spares(t *testing.T, f *ftl.FTL, want int) {
	t.Helper()
	if n := f.Spare(); n != want {
		t.Errorf("Spare %d, not %d", n, want)
	}
}

// P12.2, P12.5: blocks become bad when programming them fails, and the layer is read-only when there are more of them than spare ones, until it is restarted; the groups of calls that have succeeded are there.
func TestProgramFails(t *testing.T) {
	for spare := range 4 {
		c := api.FTLConfig{Sectors: 8, Spare: spare, MaxGroup: 4}
		g := small
		g.Blocks = 30
		f := layer(t, device(t, g, 0, 2, 4, 6, 8), c) // every other operation, of pages of data and of the journal
		want := make([][]byte, 8)
		for bad, i := 0, 0; bad <= spare; i++ {
			spares(t, f, spare-bad)
			gives(t, "Write", f.Write(put(20, i, i+1)), api.OK)
			want[i] = filled(20, i+1)
			bad = min(bad+2, 5)
		}
		for range 2 {
			refuses(t, f, "Write", func() api.Errno { return f.Write(put(20, 7, 10)) }, api.ErrReadOnly)
			refuses(t, f, "Trim", func() api.Errno { return f.Trim(0, 1) }, api.ErrReadOnly)
			refuses(t, f, "Flush", f.Flush, api.ErrReadOnly)
			spares(t, f, 0)
			for sector := range want {
				holds(t, f, sector, want[sector])
			}
			lasts(t, f, want)
		}
		gives(t, "Restart", f.Restart(), api.OK)
		spares(t, f, spare)
		gives(t, "Flush", f.Flush(), api.OK)
		gives(t, "Write", f.Write(put(20, 5, 11)), api.OK)
		holds(t, f, 5, filled(20, 11))
	}
}

// P12.2: of the groups that Flush has to make durable, those before the one for which there are too few good blocks are durable; the others still wait.
func TestFlushReadOnly(t *testing.T) {
	c := api.FTLConfig{Sectors: 8, Spare: 1, Cache: 4, MaxGroup: 4}
	f := layer(t, device(t, small, 2, 4), c) // of the second group
	for i := range 4 {
		gives(t, "Write", f.Write(put(20, i, i+1)), api.OK)
	}
	for range 3 {
		gives(t, "Flush", f.Flush(), api.ErrReadOnly)
		if f.Dirty() != 2 {
			t.Errorf("Dirty %d", f.Dirty())
		}
		spares(t, f, 0)
		for sector, want := range [][]byte{filled(20, 1), filled(20, 2), filled(20, 3), filled(20, 4), nil} {
			holds(t, f, sector, want)
		}
		lasts(t, f, [][]byte{filled(20, 1), filled(20, 2), nil, nil})
	}
	refuses(t, f, "Write", func() api.Errno { return f.Write(put(20, 0, 9)) }, api.ErrReadOnly)
	gives(t, "Restart", f.Restart(), api.OK)
	spares(t, f, 1)
	for sector, want := range [][]byte{filled(20, 1), filled(20, 2), nil, nil, nil} {
		holds(t, f, sector, want)
	}
}

// erasing returns the operations in which a layer erases blocks when a sector is written again and again.
func erasing(t *testing.T, g api.Geometry, c api.FTLConfig) []int {
	t.Helper()
	f := layer(t, device(t, g), c)
	sum := func(f *ftl.FTL) int {
		n := 0
		for _, erases := range f.Device().Wear() {
			n += erases
		}
		return n
	}
	var l []int
	for i := range 200 {
		g := f.Copy()
		gives(t, "Write", f.Write(put(20, 1, i)), api.OK)
		for before, n := sum(g), g.Device().Operations(); n < f.Device().Operations(); n++ {
			h := g.Copy()
			gives(t, "Cut", h.Device().Cut(n, 0), api.OK)
			gives(t, "Write", h.Write(put(20, 1, i)), api.ErrPower)
			if now := sum(h); now > before {
				before = now
				l = append(l, n)
			}
		}
	}
	return l
}

// P12.2, P12.5: a block becomes bad when erasing it fails, and if there is no spare one, the layer is read-only. After a restart the block can be erased.
func TestEraseFails(t *testing.T) {
	for spare := range 3 {
		c := api.FTLConfig{Sectors: 8, Spare: spare, MaxGroup: 1}
		g := fitted(small, c)
		l := erasing(t, g, c)
		if len(l) < 10 {
			t.Fatalf("blocks are erased in the operations %v", l)
		}
		for _, fault := range []int{l[0], l[1], l[9]} {
			d := device(t, g, fault)
			f := layer(t, d, c)
			last := 0
			for ; d.Operations() <= fault; last++ {
				spares(t, f, spare)
				if e := f.Write(put(20, 1, last)); e == api.ErrReadOnly && spare == 0 {
					last--
				} else {
					gives(t, "Write", e, api.OK)
				}
			}
			spares(t, f, max(0, spare-1))
			if spare == 0 {
				refuses(t, f, "Write", func() api.Errno { return f.Write(put(20, 1, 5555)) }, api.ErrReadOnly)
			} else {
				gives(t, "Write", f.Write(put(20, 3, 1)), api.OK)
			}
			holds(t, f, 1, filled(20, last-1))
			gives(t, "Restart", f.Restart(), api.OK)
			spares(t, f, spare)
			for i := range 200 {
				gives(t, "Write", f.Write(put(20, 2, i)), api.OK)
			}
			spares(t, f, spare)
			holds(t, f, 1, filled(20, last-1))
			holds(t, f, 2, filled(20, 199))
		}
	}
}

// P12.2, P12.5: blocks that are worn become bad when they should be erased, and at last the layer is read-only. What was written can still be read, also after a restart.
func TestWorn(t *testing.T) {
	for endurance := 1; endurance < 8; endurance += 3 {
		for spare := range 4 {
			c := api.FTLConfig{Sectors: 8, Spare: spare, MaxGroup: 2, Cache: spare % 2}
			g := small
			g.Endurance = endurance
			p := pairOn(t, device(t, fitted(g, c)), c, make([][]byte, 8))
			calls := 0
			for e := api.OK; e == api.OK; calls++ {
				e = p.write(t, put(20, calls%8, calls), put(20, (calls+1)%8, calls)) // the model allows ErrReadOnly only if more than the spare blocks are worn
			}
			if calls < 10*endurance {
				t.Errorf("endurance %d, spare %d: read-only after %d calls", endurance, spare, calls)
			}
			contents := p.m.now()
			gives(t, "Trim", p.trim(t, 0, 1), api.ErrReadOnly)
			gives(t, "Flush", p.flush(t), api.ErrReadOnly)
			for sector := range contents {
				holds(t, p.f, sector, contents[sector])
			}
			p.restart(t)
			p.check(t)
			spares(t, p.f, spare)
		}
	}
}

// P12.2: a layer goes on while no more blocks have failed than are spare, even if they have failed before it was made: those are not bad.
func TestFailedBefore(t *testing.T) {
	c := api.FTLConfig{Sectors: 8, Spare: 2, MaxGroup: 4}
	g := fitted(small, c)
	for _, faults := range [][]int{{0, 9}, {2, 5}, {1, 4}, {1, 31}} { // pages of data, and of the journal
		d := device(t, g, faults...)
		f := layer(t, d, c)
		for i := range 20 {
			gives(t, "Write", f.Write(put(20, i%8, i)), api.OK)
		}
		spares(t, f, 0)
		f = layer(t, d, c)
		spares(t, f, 2)
		for i := range 300 {
			gives(t, "Write", f.Write(put(20, i%8, i)), api.OK)
		}
		spares(t, f, 2)
		for block := range g.Blocks {
			for page := range g.Pages {
				if d.State(block, page) == api.PageFailed {
					t.Errorf("operations %v fail: block %d was not erased", faults, block)
				}
			}
		}
	}
}

// P12.2: many sectors that do not change are in blocks that have become bad: there is room for the others all the same, also after restarts, when these blocks are not bad any more.
func TestBadBlocksInUse(t *testing.T) {
	t.Parallel()
	for _, s := range [][3]int{{10, 1000, 160}, {20, 100, 80}, {20, 1000, 320}} {
		r := rand.New(rand.NewPCG(3, 4))
		spare, size, changing, pages := s[0], s[1], s[2], 4
		c := api.FTLConfig{Sectors: 3*spare + changing, Spare: spare, MaxGroup: pages - 1}
		var faults []int
		for i := range spare {
			faults = append(faults, pages+i*(pages+1)) // the last page of each block of data
		}
		f := layer(t, device(t, fitted(api.Geometry{Pages: pages, Size: size, Endurance: 1 << 20}, c), faults...), c)
		for i := range spare + 1 {
			gives(t, "Write", f.Write(put(size, 3*i, i), put(size, 3*i+1, i), put(size, 3*i+2, i)), api.OK)
		}
		spares(t, f, 0)
		for i := range 5000 {
			if i >= 3500 && i%100 == 0 {
				gives(t, "Restart", f.Restart(), api.OK)
			}
			if e := f.Write(put(size, 3*spare+r.IntN(changing), i)); e != api.OK {
				t.Fatalf("%v: %v at group %d", s, e, i)
			}
		}
		for i := range 3 * spare {
			holds(t, f, i, filled(size, i/3))
		}
	}
}

// P12.2: all operations fail from one of them on: the call in which no block is left changes nothing, and neither do those after it.
func TestAllFail(t *testing.T) {
	for first := range 20 {
		for cache := range 2 {
			c := api.FTLConfig{Sectors: 8, Spare: 1, Cache: cache, MaxGroup: 3}
			var faults []int
			for i := range 100 {
				faults = append(faults, first+i)
			}
			p := pairOn(t, device(t, small, faults...), c, make([][]byte, 8), faults...)
			calls := 0
			for e := api.OK; e == api.OK; calls++ {
				e = p.write(t, put(20, calls%8, calls), put(20, (calls+3)%8, calls), put(20, (calls+5)%8, calls))
			}
			if calls != first/5+1+cache { // three pages of data and two entries to a page of the journal
				t.Errorf("read-only after %d calls; operation %d has failed", calls, first)
			}
			gives(t, "Trim", p.trim(t, 0, 1), api.ErrReadOnly)
			gives(t, "Flush", p.flush(t), api.ErrReadOnly)
			p.restart(t)
			p.check(t)
		}
	}
}

// P12.2, P12.4: a layer that has returned ErrReadOnly is read-only until it is restarted, even for calls that would have to write nothing. Here the page numbers are used up, which no device lasts for.
func TestNumbersUsedUp(t *testing.T) {
	d := device(t, small)
	data := filled(20, 5)
	program(t, d, 2, api.Spare{Kind: api.SpareData, Sector: 3, Sequence: 1<<63 - 2, Length: 1}, data)
	entry := append([]byte{1, 0, 0, 0, 3, 0, 0, 0, 9, 0, 0, 0}, make([]byte, 8)...) // sector 3 in page 8
	program(t, d, 0, api.Spare{Kind: api.SpareDelta, Sequence: 1<<63 - 1, Length: 1}, entry)
	f := layer(t, d, api.FTLConfig{Sectors: 8, Spare: 1, MaxGroup: 2})
	for range 2 {
		gives(t, "Trim", f.Trim(0, 1), api.OK) // it was not written
		refuses(t, f, "Write", func() api.Errno { return f.Write(put(20, 3, 1)) }, api.ErrReadOnly)
		refuses(t, f, "Trim", func() api.Errno { return f.Trim(0, 1) }, api.ErrReadOnly)
		refuses(t, f, "Flush", f.Flush, api.ErrReadOnly)
		holds(t, f, 3, data)
		gives(t, "Restart", f.Restart(), api.OK)
	}
}

// P12.2, P12.3: the usual size of a sector.
func TestSectorSize(t *testing.T) {
	c := api.FTLConfig{Sectors: 100, Spare: 1, Cache: 2, MaxGroup: 8}
	g := fitted(api.Geometry{Pages: 8, Size: api.SectorSize, Endurance: 99}, c)
	p := pairOn(t, device(t, g, 500), c, make([][]byte, c.Sectors), 500)
	r := rand.New(rand.NewPCG(17, 1))
	for i := range 300 {
		var l []api.SectorWrite
		for _, sector := range some(r.IntN(100), 100, 1+r.IntN(8)) {
			l = append(l, put(g.Size, sector, i))
		}
		gives(t, fmt.Sprint("Write ", i), p.f.Write(l...), api.OK)
		groups, accepted := p.m.due(l)
		p.m.durable = changed(p.m.durable, groups...)
		p.m.waiting = append(p.m.waiting[len(groups):], accepted...)
	}
	p.m.count()
	p.check(t)
	spares(t, p.f, 0)
	gives(t, "Flush", p.flush(t), api.OK)
	p.cutAfter(t, 3, 4000)
	for p.write(t, put(g.Size, 3, 999), put(g.Size, 4, 999)) == api.OK {
	}
	lasts(t, p.f, p.m.durable)
}
