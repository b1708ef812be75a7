package ftl_test

import (
	"math/rand/v2"
	"testing"

	"capsule/api"
	"capsule/recovery"
)

// used returns a layer, and its model, that has written so much that room is needed again and again. Nothing fails and nothing waits by then.
func used(t *testing.T, g api.Geometry, c api.FTLConfig, faults ...int) *pair {
	t.Helper()
	d := device(t, g, faults...)
	f := layer(t, d, c)
	contents := make([][]byte, c.Sectors)
	for i := range 3 * g.Blocks {
		var l []api.SectorWrite
		for k := range min(c.MaxGroup, c.Sectors) {
			l = append(l, put(g.Size, (i*5+k)%c.Sectors, i))
		}
		gives(t, "Write", f.Write(l...), api.OK)
		contents = changed(contents, l)
	}
	gives(t, "Flush", f.Flush(), api.OK)
	if _, most := f.Wear(); most == 0 {
		t.Fatal("nothing was erased")
	}
	p := &pair{f: f, m: modelOn(d, c, contents, faults...)}
	p.check(t)
	return p
}

// script returns calls of all kinds, which return their errors.
func script() []func(*pair, *testing.T) api.Errno {
	write := func(seed int, sectors ...int) func(*pair, *testing.T) api.Errno {
		return func(p *pair, t *testing.T) api.Errno {
			var l []api.SectorWrite
			for _, sector := range sectors {
				l = append(l, put(p.m.d.Geometry().Size, sector, seed))
			}
			return p.write(t, l...)
		}
	}
	trim := func(sector, n int) func(*pair, *testing.T) api.Errno {
		return func(p *pair, t *testing.T) api.Errno { return p.trim(t, sector, n) }
	}
	return []func(*pair, *testing.T) api.Errno{
		write(100, 0, 4), write(101, 1), trim(2, 3), write(102, 2, 0), write(103, 5, 1), write(104, 3, 4), (*pair).flush, write(105, 4, 0), write(106, 0, 5), trim(0, 6), write(107, 1, 3), (*pair).flush,
	}
}

// play makes all calls of the script; each one that the power interrupts is made again. After a cut it calls again, if there is a function for that. At the end everything is flushed.
func (p *pair) play(t *testing.T, again func()) {
	t.Helper()
	for _, call := range append(script(), (*pair).flush) {
		for call(p, t) == api.ErrPower && !t.Failed() {
			if again != nil {
				again()
			}
		}
	}
	lasts(t, p.f, p.m.durable)
}

// operations returns how many operations the script needs, some of which have to make room.
func (p *pair) operations(t *testing.T) int {
	t.Helper()
	q := p.copied()
	q.play(t, nil)
	erases := 0
	for block := range p.m.d.Geometry().Blocks {
		erases += q.m.d.Erases(block) - p.m.d.Erases(block)
	}
	if erases < 3 {
		t.Errorf("only %d blocks are erased", erases)
	}
	return q.m.d.Operations() - p.m.d.Operations()
}

// scripted are layers on which the script makes room: on the smallest device that they fit, with and without a cache.
func scripted() []struct {
	g api.Geometry
	c api.FTLConfig
} {
	var l []struct {
		g api.Geometry
		c api.FTLConfig
	}
	for _, g := range []api.Geometry{{Pages: 2, Size: 12, Endurance: 999}, {Pages: 3, Size: 20, Endurance: 999}} {
		for _, cache := range []int{0, 2} {
			c := api.FTLConfig{Sectors: 6, Spare: 3, Cache: cache, MaxGroup: 2}
			l = append(l, struct {
				g api.Geometry
				c api.FTLConfig
			}{fitted(g, c), c})
		}
	}
	return l
}

// P12.6: the power is cut at each operation of a sequence of calls, after several numbers of bytes.
func TestEveryCut(t *testing.T) {
	t.Parallel()
	for _, s := range scripted() {
		ready := used(t, s.g, s.c)
		most := s.g.Size + api.SpareSize
		for operation := range ready.operations(t) {
			for _, n := range []int{0, 1, s.g.Size, s.g.Size + 9, most - 1, most} {
				cuts := 0
				p := ready.copied()
				p.cutAfter(t, operation, n)
				p.play(t, func() { cuts++ })
				if cuts > 1 || cuts == 0 && s.c.Cache == 0 || t.Failed() {
					t.Fatalf("%d cuts at operation %d after %d bytes: %+v, %+v", cuts, operation, n, s.g, s.c)
				}
			}
		}
	}
}

// P12.6: several power cuts in a row: after each one there is another one, some operations later.
func TestCutsInARow(t *testing.T) {
	t.Parallel()
	for _, s := range scripted() {
		ready := used(t, s.g, s.c)
		most := s.g.Size + api.SpareSize
		for operation := range ready.operations(t) {
			for gap := range 8 {
				p, cuts := ready.copied(), 0
				p.cutAfter(t, operation, operation*gap%(most+1))
				p.play(t, func() {
					cuts++
					if cuts < 12 {
						p.cutAfter(t, gap, []int{0, most, most - 1}[(cuts+gap)%3])
					}
				})
				if cuts == 0 && s.c.Cache == 0 || t.Failed() {
					t.Fatalf("%d cuts from operation %d on with the gap %d: %+v, %+v", cuts, operation, gap, s.g, s.c)
				}
			}
		}
	}
}

// P12.2, P12.5, P12.6: programming and erasing fail at several operations near each other, without power cuts and with some between them, and never at more operations than there are spare blocks.
func TestFailures(t *testing.T) {
	t.Parallel()
	for _, s := range scripted() {
		first := used(t, s.g, s.c).m.d.Operations()
		for n := range 24 {
			for _, faults := range [][]int{{n}, {n, n + 1}, {n, n + 1, n + 2}, {n, n + 2, n + 5}, {n, n + 7, n + 8}} {
				for i := range faults {
					faults[i] += first
				}
				ready := used(t, s.g, s.c, faults...)
				ready.copied().play(t, nil)
				for gap := range 4 {
					p := ready.copied()
					p.cutAfter(t, max(0, n-2)+gap*3, (n*17+gap)%(s.g.Size+api.SpareSize+1))
					p.play(t, func() {
						if p.m.d.Operations() < first+n+12 {
							p.cutAfter(t, gap+2, gap*9)
						}
					})
				}
				if t.Failed() {
					t.Fatalf("operations %v fail: %+v, %+v", faults, s.g, s.c)
				}
			}
		}
	}
}

// P12.6: the cases of DOC.md's example 6: a group that was flushed survives a power cut, whatever is cut afterwards, and one that was not may be lost, but never a part of it.
func TestFlushed(t *testing.T) {
	c := few
	c.Cache = 3
	for operation := range 9 {
		f := layer(t, device(t, small), c)
		gives(t, "Write", f.Write(put(20, 3, 1), put(20, 4, 1)), api.OK)
		gives(t, "Flush", f.Flush(), api.OK)
		gives(t, "Write", f.Write(put(20, 3, 2), put(20, 5, 2)), api.OK)
		gives(t, "Trim", f.Trim(3, 2), api.OK)
		gives(t, "Write", f.Write(put(20, 4, 3), put(20, 6, 3)), api.OK)
		d := f.Device()
		gives(t, "Cut", d.Cut(d.Operations()+operation, 0), api.OK)
		e := f.Flush()
		gives(t, "Restart", f.Restart(), api.OK)
		// Two sectors and an entry each for the first and the last group, and two entries for the trimmed sectors.
		want := [][]byte{nil, nil, nil, filled(20, 1), filled(20, 1), nil, nil}
		if operation >= 3 {
			want[3], want[5] = filled(20, 2), filled(20, 2)
		}
		if operation >= 4 {
			want[3], want[4] = nil, nil
		}
		if operation >= 7 {
			want[4], want[6] = filled(20, 3), filled(20, 3)
		}
		if (e == api.OK) != (operation >= 7) {
			t.Errorf("operation %d: %v", operation, e)
		}
		for sector := range want {
			holds(t, f, sector, want[sector])
		}
	}
}

// P12.2, P12.6: of all power cuts in a call, the one is made that leaves the fewest blocks without sectors and journal, again and again.
func TestWorstCuts(t *testing.T) {
	t.Parallel()
	for _, g := range []api.Geometry{{Pages: 8, Size: 12, Endurance: 1 << 20}, {Pages: 5, Size: 16, Endurance: 1 << 20}} {
		r := rand.New(rand.NewPCG(14, uint64(g.Pages)))
		c := api.FTLConfig{Sectors: 7 * g.Pages, MaxGroup: 2}
		p := used(t, fitted(g, c), c)
		for step := range 24 {
			l := []api.SectorWrite{put(g.Size, r.IntN(c.Sectors), step)}
			var worst *pair
			least := 0
			for operation := 0; ; operation++ {
				q := p.copied()
				q.cutAfter(t, operation, r.IntN(2)*(g.Size+api.SpareSize))
				e := q.write(t, l...)
				if n := q.room(); worst == nil || n < least || n == least && r.IntN(3) == 0 {
					worst, least = q, n
				}
				if e != api.ErrPower {
					break
				}
			}
			p = worst
			gives(t, "Restart", p.m.d.Restart(), api.OK) // removes a cut that has not come
		}
		if t.Failed() {
			t.Fatalf("%+v, %+v", g, c)
		}
	}
}

// room returns the number of blocks that contain neither sectors nor pages of the journal that count.
func (p *pair) room() int {
	f, _ := recovery.Scan(p.m.d, p.m.c.Sectors)
	g, used := p.m.d.Geometry(), map[int]bool{}
	for _, entry := range f.Entries {
		used[entry.Page/g.Pages] = true
	}
	return g.Blocks - len(used) - len(f.Journal)
}
