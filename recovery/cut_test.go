package recovery_test

import (
	"bytes"
	"fmt"
	"math/rand/v2"
	"slices"
	"testing"

	"capsule/api"
	"capsule/appender"
	"capsule/flash"
	"capsule/recovery"
)

// store is an appender, and the contents that its sectors have to have; one that is not mapped has none.
type store struct {
	a        *appender.Appender
	contents [][]byte
}

// opened returns the store on a device with what Scan finds there.
func opened(t *testing.T, d *flash.Device, contents [][]byte) *store {
	t.Helper()
	f, e := recovery.Scan(d, len(contents))
	if e != api.OK {
		t.Fatalf("Scan: %v", e)
	}
	a := started(t, d, len(contents), f)
	if !slices.Equal(a.Entries(), f.Entries) || a.Next() != f.Next || a.Journal() != len(f.Journal) {
		t.Errorf("the appender starts with %v, %d, %d, not %+v", a.Entries(), a.Next(), a.Journal(), f)
	}
	return &store{a, contents}
}

// contain fails the test unless the sectors of an appender have these contents.
func contain(t *testing.T, a *appender.Appender, contents [][]byte) {
	t.Helper()
	for sector, want := range contents {
		if len(want) == 0 {
			want = make([]byte, a.Device().Geometry().Size)
		}
		if b, e := a.Read(sector); e != api.OK || !bytes.Equal(b, want) {
			t.Errorf("sector %d: %x, %v, not %x", sector, b, e, want)
		}
	}
}

// check fails the test unless Scan finds the current assignments, and an appender that starts with what is found has the same contents.
func (s *store) check(t *testing.T) {
	t.Helper()
	d := s.a.Device()
	f, e := agrees(t, d, len(s.contents))
	if e != api.OK || !slices.Equal(f.Entries, s.a.Entries()) {
		t.Errorf("%v, %v, not %v", f.Entries, e, s.a.Entries())
	}
	if f.Last >= f.Next || f.Next > s.a.Next() {
		t.Errorf("Last %d, Next %d; the appender's is %d", f.Last, f.Next, s.a.Next())
	}
	for _, c := range s.a.Candidates() {
		if slices.Contains(f.Journal, c.Block) {
			t.Errorf("block %d is not one of the journal", c.Block)
		}
	}
	contain(t, s.a, s.contents)
	contain(t, opened(t, d.Copy(), s.contents).a, s.contents)
}

// call is a call of an appender that is to lead from some contents to others.
type call struct {
	name string
	make func(*appender.Appender) api.Errno
	lead func([][]byte) [][]byte
}

func same(contents [][]byte) [][]byte { return contents }

// groupCall returns the call that appends a group.
func groupCall(l ...api.SectorWrite) call {
	return call{fmt.Sprint("Append ", l), func(a *appender.Appender) api.Errno { return a.Append(l...) }, func(contents [][]byte) [][]byte {
		after := slices.Clone(contents)
		for _, w := range l {
			after[w.Sector] = w.Data
		}
		return after
	}}
}

// moveCall returns the call that moves one of the blocks that can be moved, if there is one.
func moveCall(n int) call {
	return call{fmt.Sprint("Move ", n), func(a *appender.Appender) api.Errno {
		if l := a.Candidates(); len(l) > 0 {
			return a.Move(l[n%len(l)].Block)
		}
		return api.OK
	}, same}
}

// checkpointCall returns the call that writes a checkpoint.
func checkpointCall() call {
	return call{"Checkpoint", (*appender.Appender).Checkpoint, same}
}

// run makes a call and returns its error. If the power is cut, it restarts the device, and the store goes on with an appender that starts with what is found: the assignments from before the call, or those that it would have led to.
func (s *store) run(t *testing.T, c call) api.Errno {
	t.Helper()
	before, untouched := s.a.Entries(), s.a.Copy()
	gives(t, "Restart", untouched.Device().Restart(), api.OK) // no cut is pending there any more
	would := c.make(untouched)
	after, led := untouched.Entries(), s.contents
	if would == api.OK {
		led = c.lead(s.contents)
	}
	e := c.make(s.a)
	if e != api.ErrPower {
		gives(t, c.name, e, would)
		s.contents = led
		s.check(t)
		return e
	}
	d := s.a.Device()
	cannot(t, d, len(s.contents), api.ErrPower)
	gives(t, "Restart", d.Restart(), api.OK)
	f, failure := agrees(t, d, len(s.contents))
	gives(t, "Scan after "+c.name, failure, api.OK)
	switch {
	case slices.Equal(f.Entries, after):
		s.contents = led
	case !slices.Equal(f.Entries, before):
		t.Errorf("after %s: %v, not %v or %v", c.name, f.Entries, before, after)
	}
	s.a = opened(t, d, s.contents).a
	s.check(t)
	return e
}

// roomy is a geometry with blocks for the script and some power cuts.
var roomy = api.Geometry{Blocks: 16, Pages: 3, Size: 20, Endurance: 99}

func put(sector, seed int) api.SectorWrite {
	return api.SectorWrite{Sector: sector, Data: filled(roomy.Size, seed)}
}

func trim(sector int) api.SectorWrite {
	return api.SectorWrite{Sector: sector}
}

// script returns calls of all kinds, with records of one and of several pages.
func script() []call {
	return []call{
		groupCall(put(1, 1)), groupCall(put(3, 2)), groupCall(put(0, 3), put(2, 4), trim(1), trim(5), put(3, 5)), groupCall(put(3, 6)), checkpointCall(),
		groupCall(put(4, 7), put(0, 8)), moveCall(0), groupCall(trim(2), put(1, 9)), groupCall(trim(5)), moveCall(0), checkpointCall(), groupCall(put(2, 10), put(5, 11), put(6, 12)), moveCall(1), groupCall(trim(0), trim(6)),
	}
}

// play makes all calls of the script on a new device; each one that the power interrupts is made again. After a cut it calls again, if there is a function for that.
func play(t *testing.T, d *flash.Device, again func(*flash.Device)) {
	t.Helper()
	s := opened(t, d, make([][]byte, 7))
	for _, c := range script() {
		for s.run(t, c) == api.ErrPower && !t.Failed() {
			if again != nil {
				again(d)
			}
		}
	}
	last := make([][]byte, 7)
	for sector, seed := range []int{0, 9, 10, 6, 7, 11, 0} {
		if seed > 0 {
			last[sector] = filled(roomy.Size, seed)
		}
	}
	contain(t, s.a, last)
}

// operations returns how many operations the script needs if nothing fails.
func operations(t *testing.T) int {
	t.Helper()
	d := device(t, roomy)
	play(t, d, nil)
	return d.Operations()
}

// cutAt makes a cut pending, and fails the test if it cannot.
func cutAt(t *testing.T, d *flash.Device, operation, n int) {
	t.Helper()
	gives(t, "Cut", d.Cut(operation, n), api.OK)
}

// P11.3: the power is cut at each operation, after several numbers of bytes.
func TestEveryCut(t *testing.T) {
	size, most := roomy.Size, roomy.Size+api.SpareSize
	for operation := range operations(t) {
		for _, n := range []int{0, 1, 5, size - 1, size, size + 1, size + 8, size + 60, most - 3, most - 1, most} {
			cuts := 0
			d := device(t, roomy)
			cutAt(t, d, operation, n)
			play(t, d, func(*flash.Device) { cuts++ })
			if cuts != 1 || t.Failed() {
				t.Fatalf("%d cuts at operation %d after %d bytes", cuts, operation, n)
			}
		}
	}
}

// P11.3: several power cuts in a row: after each one there is another one, some operations later.
func TestCutsInARow(t *testing.T) {
	most := roomy.Size + api.SpareSize
	for operation := range operations(t) {
		for gap := range 9 {
			cuts := 0
			d := device(t, roomy)
			cutAt(t, d, operation, (operation*gap)%(most+1))
			play(t, d, func(d *flash.Device) {
				cuts++
				if cuts < 4 {
					cutAt(t, d, d.Operations()+gap, []int{0, most, most - 1}[(cuts+gap)%3])
				}
			})
			if cuts < 1 || t.Failed() {
				t.Fatalf("%d cuts from operation %d on with the gap %d", cuts, operation, gap)
			}
		}
	}
}

// P11.3: programming and erasing fail at each operation, and at each two of them that are not far from each other, without a power cut and with one.
func TestFailures(t *testing.T) {
	n := operations(t)
	for first := range n {
		for second := first; second < first+6; second++ {
			play(t, device(t, roomy, first, second), nil)
			for operation := max(0, first-2); operation < second+2; operation++ {
				d := device(t, roomy, first, second)
				cutAt(t, d, operation, (operation*17)%(roomy.Size+api.SpareSize+1))
				play(t, d, nil)
			}
			if t.Failed() {
				t.Fatalf("operations %d and %d fail", first, second)
			}
		}
	}
}

// someCall returns a call with random arguments.
func someCall(r *rand.Rand, size, sectors int) call {
	switch n := r.IntN(20); {
	case n < 3:
		return checkpointCall()
	case n < 12:
		return moveCall(r.IntN(99))
	}
	var l []api.SectorWrite
	for _, sector := range r.Perm(sectors)[:1+r.IntN(min(sectors, 4))] {
		w := api.SectorWrite{Sector: sector}
		if r.IntN(4) > 0 {
			w.Data = filled(size, r.IntN(1000))
		}
		l = append(l, w)
	}
	return groupCall(l...)
}

// P11.3: long sequences of random calls on random devices, with many power cuts and with operations that fail.
func TestRandomCuts(t *testing.T) {
	outcomes := map[api.Errno]int{}
	for run := range 150 {
		r := rand.New(rand.NewPCG(12, uint64(run)))
		g := api.Geometry{Blocks: 6 + r.IntN(12), Pages: 2 + r.IntN(4), Size: 12 + r.IntN(20), Endurance: 4 + r.IntN(60)}
		var faults []int
		for range r.IntN(3) * r.IntN(10) {
			faults = append(faults, r.IntN(300))
		}
		d := device(t, g, faults...)
		s := opened(t, d, make([][]byte, 1+r.IntN(g.Blocks*g.Pages/5)))
		for range 80 {
			if r.IntN(3) == 0 {
				cutAt(t, d, d.Operations()+r.IntN(6), r.IntN(g.Size+api.SpareSize+1))
			}
			outcomes[s.run(t, someCall(r, g.Size, len(s.contents)))]++
		}
		if t.Failed() {
			t.Fatalf("run %d", run)
		}
	}
	if outcomes[api.OK] < 5000 || outcomes[api.ErrPower] < 1000 || outcomes[api.ErrFull] < 500 {
		t.Errorf("outcomes: %v", outcomes)
	}
}

// P11.1, P11.3: many sectors, and a checkpoint of many pages in several blocks.
func TestManySectors(t *testing.T) {
	g := api.Geometry{Blocks: 64, Pages: 30, Size: 100, Endurance: 9} // 12 entries a page
	const sectors = 600
	s := opened(t, device(t, g), make([][]byte, sectors))
	for first := 0; first < sectors; first += 50 {
		var l []api.SectorWrite
		for i := range 50 {
			l = append(l, api.SectorWrite{Sector: sectors - 1 - first - i, Data: filled(g.Size, first+i)})
		}
		gives(t, "Append", s.a.Append(l...), api.OK)
		copyOf(s.contents, l)
	}
	s.check(t)
	gives(t, "Checkpoint", s.a.Checkpoint(), api.OK)
	s.check(t)
	f, _ := recovery.Scan(s.a.Device(), sectors)
	if f.Last != 600+12*5+50 || f.Next != f.Last+1 || len(f.Entries) != sectors || len(f.Journal) != 2 || len(f.Dirty) != 20 {
		t.Errorf("Last %d, Next %d, %d entries, Journal %v, Dirty %v", f.Last, f.Next, len(f.Entries), f.Journal, f.Dirty)
	}
}

// copyOf puts the contents of a group among those of all sectors.
func copyOf(contents [][]byte, l []api.SectorWrite) {
	for _, w := range l {
		contents[w.Sector] = w.Data
	}
}

// P11.3: pages of the smallest, the usual and the largest size.
func TestSizes(t *testing.T) {
	for _, size := range []int{12, api.SectorSize, 8192} {
		g := api.Geometry{Blocks: 5, Pages: 4, Size: size, Endurance: 9}
		write := func(sector, seed int) api.SectorWrite {
			return api.SectorWrite{Sector: sector, Data: filled(size, seed)}
		}
		for operation := range 9 {
			for _, n := range []int{0, 7, size, size + api.SpareSize - 1, size + api.SpareSize} {
				d := device(t, g)
				s := opened(t, d, make([][]byte, 3))
				cutAt(t, d, operation, n)
				for _, c := range []call{groupCall(write(2, 1)), groupCall(write(1, 2), write(2, 3)), checkpointCall(), groupCall(trim(1))} {
					for s.run(t, c) == api.ErrPower {
					}
				}
				contain(t, s.a, [][]byte{nil, nil, filled(size, 3)})
			}
		}
	}
}
