package ftl_test

import (
	"fmt"
	"math"
	"slices"
	"testing"

	"capsule/api"
	"capsule/ftl"
)

// state is what can be seen of a layer without reading it.
func state(f *ftl.FTL) string {
	least, most := f.Wear()
	return fmt.Sprint(f.Sectors(), f.Spare(), f.Dirty(), least, most, f.Device().Operations(), f.Device().Powered())
}

// refuses fails the test unless a call returns an error and changes nothing.
func refuses(t *testing.T, f *ftl.FTL, name string, call func() api.Errno, want api.Errno) {
	t.Helper()
	before := state(f)
	contents := make([][]byte, f.Sectors())
	for sector := range contents {
		contents[sector], _ = f.Read(sector)
	}
	gives(t, name, call(), want)
	if state(f) != before {
		t.Errorf("%s: %s, not %s", name, state(f), before)
	}
	for sector := range contents {
		if b, _ := f.Read(sector); !slices.Equal(b, contents[sector]) {
			t.Errorf("%s: sector %d is %x, not %x", name, sector, b, contents[sector])
		}
	}
}

// layers returns layers in all states, with the error that calls with valid arguments return there.
func layers(t *testing.T) map[string]struct {
	f *ftl.FTL
	e api.Errno
} {
	t.Helper()
	type entry = struct {
		f *ftl.FTL
		e api.Errno
	}
	c := api.FTLConfig{Sectors: 8, Spare: 0, Cache: 1, MaxGroup: 4}
	ready := func(faults ...int) *ftl.FTL {
		f := layer(t, device(t, small, faults...), c)
		gives(t, "Write", f.Write(put(20, 2, 5), put(20, 1, 6)), api.OK)
		gives(t, "Write", f.Write(put(20, 2, 7)), api.OK)
		return f
	}
	down := ready()
	gives(t, "Cut", down.Device().Cut(down.Device().Operations(), 3), api.OK)
	gives(t, "Flush", down.Flush(), api.ErrPower)
	bad, readOnly := ready(1), ready(1)
	gives(t, "Flush", readOnly.Flush(), api.ErrReadOnly)
	return map[string]entry{"ready": {ready(), api.OK}, "down": {down, api.ErrPower}, "bad": {bad, api.ErrReadOnly}, "read-only": {readOnly, api.ErrReadOnly}}
}

// P12.2: the groups that Write refuses, and that ErrArg comes before ErrRange, and both before ErrPower and ErrReadOnly.
func TestWriteErrors(t *testing.T) {
	for name, l := range layers(t) {
		t.Run(name, func(t *testing.T) {
			for i, c := range []struct {
				group []api.SectorWrite
				want  api.Errno
			}{
				{nil, api.ErrArg},
				{[]api.SectorWrite{}, api.ErrArg},
				{[]api.SectorWrite{put(20, 0, 1), put(20, 1, 1), put(20, 2, 1), put(20, 3, 1), put(20, 4, 1)}, api.ErrArg},
				{[]api.SectorWrite{put(20, 3, 1), put(20, 3, 1)}, api.ErrArg},
				{[]api.SectorWrite{put(20, 3, 1), put(20, 1, 1), put(20, 4, 1), put(20, 3, 2)}, api.ErrArg},
				{[]api.SectorWrite{put(19, 3, 1)}, api.ErrArg},
				{[]api.SectorWrite{put(21, 3, 1)}, api.ErrArg},
				{[]api.SectorWrite{{Sector: 3}}, api.ErrArg},
				{[]api.SectorWrite{{Sector: 3, Data: []byte{}}}, api.ErrArg},
				{[]api.SectorWrite{put(20, 3, 1), {Sector: 4}}, api.ErrArg},
				{[]api.SectorWrite{put(20, 3, 1), put(40, 4, 1)}, api.ErrArg},
				{[]api.SectorWrite{put(20, 8, 1)}, api.ErrRange},
				{[]api.SectorWrite{put(20, -1, 1)}, api.ErrRange},
				{[]api.SectorWrite{put(20, math.MinInt, 1)}, api.ErrRange},
				{[]api.SectorWrite{put(20, math.MaxInt, 1)}, api.ErrRange},
				{[]api.SectorWrite{put(20, 3, 1), put(20, 8, 1)}, api.ErrRange},
				{[]api.SectorWrite{put(20, 8, 1), put(20, 3, 1), put(20, 9, 1)}, api.ErrRange},
				{[]api.SectorWrite{put(20, 8, 1), put(20, 8, 1)}, api.ErrArg},
				{[]api.SectorWrite{put(20, 8, 1), put(19, 3, 1)}, api.ErrArg},
				{[]api.SectorWrite{put(19, 8, 1)}, api.ErrArg},
				{[]api.SectorWrite{put(20, 8, 1), put(20, 9, 1), put(20, 2, 1), put(20, 3, 1), put(20, 4, 1)}, api.ErrArg},
			} {
				refuses(t, l.f, fmt.Sprint("Write ", i), func() api.Errno { return l.f.Write(c.group...) }, c.want)
			}
			if l.e != api.OK {
				refuses(t, l.f, "Write", func() api.Errno { return l.f.Write(put(20, 3, 1)) }, l.e)
				return
			}
			gives(t, "Write", l.f.Write(put(20, 3, 1)), api.OK)
			gives(t, "Write", l.f.Write(put(20, 3, 2), put(20, 0, 4), put(20, 7, 3), put(20, 2, 9)), api.OK)
			for sector, want := range [][]byte{filled(20, 4), filled(20, 6), filled(20, 9), filled(20, 2), nil, nil, nil, filled(20, 3)} {
				holds(t, l.f, sector, want)
			}
		})
	}
}

// P12.2: what Trim refuses, and the order of the errors; Trim of no sector does nothing, but where nothing may be trimmed it is an error, too.
func TestTrimErrors(t *testing.T) {
	for name, l := range layers(t) {
		t.Run(name, func(t *testing.T) {
			for _, c := range [][2]int{{8, 0}, {8, 1}, {-1, 0}, {-1, 1}, {-1, 9}, {0, -1}, {0, 9}, {7, 2}, {3, 6}, {3, -1}, {9, -1}, {0, math.MaxInt}, {7, math.MaxInt}, {0, math.MinInt}, {math.MinInt, 0}, {math.MaxInt, 1}, {math.MaxInt, math.MaxInt}, {math.MinInt, math.MaxInt}} {
				refuses(t, l.f, fmt.Sprint("Trim ", c), func() api.Errno { return l.f.Trim(c[0], c[1]) }, api.ErrRange)
			}
			for _, sector := range []int{0, 2, 7} {
				refuses(t, l.f, "Trim of none", func() api.Errno { return l.f.Trim(sector, 0) }, l.e)
			}
			if l.e != api.OK {
				refuses(t, l.f, "Trim", func() api.Errno { return l.f.Trim(1, 2) }, l.e)
				refuses(t, l.f, "Flush", l.f.Flush, l.e)
				return
			}
			gives(t, "Trim", l.f.Trim(1, 1), api.OK)
			holds(t, l.f, 1, nil)
			holds(t, l.f, 2, filled(20, 7))
			gives(t, "Trim", l.f.Trim(7, 1), api.OK)
			gives(t, "Write", l.f.Write(put(20, 0, 1), put(20, 3, 1), put(20, 7, 1)), api.OK)
			gives(t, "Trim", l.f.Trim(1, 6), api.OK)
			for sector, want := range [][]byte{filled(20, 1), nil, nil, nil, nil, nil, nil, filled(20, 1)} {
				holds(t, l.f, sector, want)
			}
			gives(t, "Trim", l.f.Trim(0, 8), api.OK)
			for range 2 {
				for sector := range 8 {
					holds(t, l.f, sector, nil)
				}
				gives(t, "Flush", l.f.Flush(), api.OK)
			}
		})
	}
}

// P12.3: the errors of Read, and their order; a layer that is read-only can be read.
func TestReadErrors(t *testing.T) {
	for name, l := range layers(t) {
		t.Run(name, func(t *testing.T) {
			for _, sector := range []int{-1, 8, 9, math.MinInt, math.MaxInt} {
				cannotRead(t, l.f, sector, api.ErrRange)
			}
			for sector, want := range [][]byte{nil, filled(20, 6), filled(20, 7), nil, nil, nil, nil, nil} {
				if l.e == api.ErrPower {
					cannotRead(t, l.f, sector, api.ErrPower)
				} else {
					holds(t, l.f, sector, want)
				}
			}
		})
	}
}

// P12.4, P12.5: Restart ends all these states: waiting groups are lost, the power is on, and no block is bad.
func TestRestartStates(t *testing.T) {
	for name, l := range layers(t) {
		t.Run(name, func(t *testing.T) {
			dirty, spares := 1, 0
			if name == "down" {
				dirty = 0
			}
			d, operations := l.f.Device(), l.f.Device().Operations()
			for range 2 {
				if l.f.Dirty() != dirty || l.f.Spare() != spares || l.f.Device() != d || l.f.Sectors() != 8 {
					t.Errorf("Dirty %d, Spare %d", l.f.Dirty(), l.f.Spare())
				}
				gives(t, "Restart", l.f.Restart(), api.OK)
				dirty = 0
				if !d.Powered() || d.Operations() != operations {
					t.Errorf("power %v, %d operations", d.Powered(), d.Operations())
				}
				holds(t, l.f, 1, filled(20, 6))
				holds(t, l.f, 2, filled(20, 5))
			}
			gives(t, "Flush", l.f.Flush(), api.OK)
			gives(t, "Trim", l.f.Trim(1, 1), api.OK)
			gives(t, "Write", l.f.Write(put(20, 2, 8)), api.OK)
			gives(t, "Flush", l.f.Flush(), api.OK)
			holds(t, l.f, 1, nil)
			lasts(t, l.f, [][]byte{nil, nil, filled(20, 8)})
		})
	}
}

// P12.4: Restart removes a pending cut.
func TestRestartCut(t *testing.T) {
	f := layer(t, device(t, small), few)
	gives(t, "Cut", f.Device().Cut(0, 3), api.OK)
	gives(t, "Restart", f.Restart(), api.OK)
	gives(t, "Write", f.Write(put(20, 2, 8)), api.OK)
	gives(t, "Flush", f.Flush(), api.OK)
	lasts(t, f, [][]byte{nil, nil, filled(20, 8)})
}

// P12.4: if what is on the device does not fit any more, Restart changes nothing, be the layer down or not.
func TestRestartFormat(t *testing.T) {
	c := few
	c.Cache = 2
	f := layer(t, device(t, small), c)
	gives(t, "Write", f.Write(put(20, 2, 8)), api.OK)
	gives(t, "Flush", f.Flush(), api.OK)
	gives(t, "Write", f.Write(put(20, 1, 3)), api.OK)
	d := f.Device()
	gives(t, "Erase", d.Erase(0), api.OK) // it contains sector 2
	gives(t, "Cut", d.Cut(d.Operations()+1, 3), api.OK)
	refuses(t, f, "Restart", f.Restart, api.ErrFormat)
	holds(t, f, 1, filled(20, 3))
	gives(t, "Write", f.Write(put(20, 2, 9)), api.OK)
	gives(t, "Flush", f.Flush(), api.ErrPower) // the cut is still pending
	for range 2 {
		refuses(t, f, "Restart", f.Restart, api.ErrFormat)
		refuses(t, f, "Flush", f.Flush, api.ErrPower)
		cannotRead(t, f, 1, api.ErrPower)
		if d.Powered() {
			t.Error("the power is on")
		}
	}
}

// P12.2 to P12.5: a device that has lost its power without the layer: every call that needs it returns ErrPower, and the layer is down.
func TestPowerLost(t *testing.T) {
	for i, call := range []func(*ftl.FTL) api.Errno{
		func(f *ftl.FTL) api.Errno { return f.Write(put(20, 3, 1)) },
		func(f *ftl.FTL) api.Errno { return f.Trim(3, 1) },
		func(f *ftl.FTL) api.Errno { return f.Trim(3, 0) },
		(*ftl.FTL).Flush,
		func(f *ftl.FTL) api.Errno { cannotRead(t, f, 1, api.ErrPower); return api.ErrPower },
		func(f *ftl.FTL) api.Errno { cannotRead(t, f, 2, api.ErrPower); return api.ErrPower },
	} {
		c := few
		c.Cache = 3
		f := layer(t, device(t, small), c)
		gives(t, "Write", f.Write(put(20, 2, 8)), api.OK)
		gives(t, "Flush", f.Flush(), api.OK)
		gives(t, "Write", f.Write(put(20, 1, 3)), api.OK)
		d := f.Device()
		gives(t, "Cut", d.Cut(d.Operations(), 3), api.OK)
		gives(t, "Erase", d.Erase(9), api.ErrPower)
		if f.Dirty() != 0 {
			t.Errorf("Dirty %d", f.Dirty())
		}
		gives(t, fmt.Sprint("call ", i), call(f), api.ErrPower)
		d.Restart()
		refuses(t, f, "Flush", f.Flush, api.ErrPower)
		gives(t, "Restart", f.Restart(), api.OK)
		holds(t, f, 1, nil)
		holds(t, f, 2, filled(20, 8))
	}
}

// P12.2 to P12.4: a layer that is read-only, on a device that has lost its power: it is down, too.
func TestPowerLostReadOnly(t *testing.T) {
	for _, name := range []string{"bad", "read-only"} {
		f := layers(t)[name].f
		d := f.Device()
		gives(t, "Cut", d.Cut(d.Operations(), 3), api.OK)
		gives(t, "Erase", d.Erase(9), api.ErrPower)
		refuses(t, f, "Trim", func() api.Errno { return f.Trim(3, 0) }, api.ErrPower)
		refuses(t, f, "Write", func() api.Errno { return f.Write(put(20, 3, 1)) }, api.ErrPower)
		refuses(t, f, "Flush", f.Flush, api.ErrPower)
		cannotRead(t, f, 2, api.ErrPower)
		gives(t, "Restart", f.Restart(), api.OK)
		gives(t, "Flush", f.Flush(), api.OK)
		holds(t, f, 2, filled(20, 5))
	}
}

// P12.2, P12.3: without a cache, a group is durable as soon as the call returns, and nothing ever waits.
func TestNoCache(t *testing.T) {
	c := api.FTLConfig{Sectors: 8, MaxGroup: 4}
	f := layer(t, device(t, small), c)
	want := make([][]byte, 8)
	step := func(name string, e api.Errno) {
		t.Helper()
		gives(t, name, e, api.OK)
		if f.Dirty() != 0 {
			t.Errorf("Dirty %d", f.Dirty())
		}
		for sector := range want {
			holds(t, f, sector, want[sector])
		}
		lasts(t, f, want)
	}
	step("Flush", f.Flush())
	want[3] = filled(20, 1)
	step("Write", f.Write(put(20, 3, 1)))
	want[3], want[0], want[7], want[1] = filled(20, 2), filled(20, 3), filled(20, 4), filled(20, 5)
	step("Write", f.Write(put(20, 3, 2), put(20, 0, 3), put(20, 7, 4), put(20, 1, 5)))
	want[0], want[1] = nil, nil
	step("Trim", f.Trim(0, 3))
	step("Trim", f.Trim(0, 3))
	step("Trim", f.Trim(3, 0))
	want[3] = nil
	step("Trim", f.Trim(3, 1))
	step("Flush", f.Flush())
	want[7] = nil
	step("Trim", f.Trim(0, 8))
}

// P12.2, P12.3, P12.5: with a cache, the oldest group becomes durable when there are too many, and all of them in order with Flush; a sector is read as in the last group that changes it.
func TestCache(t *testing.T) {
	for cache := 1; cache <= 3; cache++ {
		c := api.FTLConfig{Sectors: 8, Spare: 1, Cache: cache, MaxGroup: 4}
		f := layer(t, device(t, small), c)
		contents := [][][]byte{make([][]byte, 8)} // after each number of groups
		step := func(l ...api.SectorWrite) {
			t.Helper()
			contents = append(contents, changed(contents[len(contents)-1], l))
			n := len(contents) - 1
			if f.Dirty() != min(n, cache) {
				t.Errorf("Dirty %d after %d groups", f.Dirty(), n)
			}
			for range 2 {
				for sector, want := range contents[n] {
					holds(t, f, sector, want)
				}
			}
			lasts(t, f, contents[max(0, n-cache)])
		}
		write := func(l ...api.SectorWrite) {
			t.Helper()
			gives(t, "Write", f.Write(l...), api.OK)
			step(l...)
		}
		write(put(20, 3, 1))
		write(put(20, 3, 2), put(20, 4, 2))
		write(put(20, 4, 3))
		gives(t, "Trim", f.Trim(3, 2), api.OK)
		step(api.SectorWrite{Sector: 3}, api.SectorWrite{Sector: 4})
		write(put(20, 4, 4), put(20, 2, 4), put(20, 5, 4))
		gives(t, "Trim", f.Trim(5, 3), api.OK)
		step(api.SectorWrite{Sector: 5}, api.SectorWrite{Sector: 6}, api.SectorWrite{Sector: 7})
		write(put(20, 6, 5))
		gives(t, "Trim", f.Trim(4, 0), api.OK) // no group
		lasts(t, f, contents[7-cache])
		last := contents[7]
		for range 2 {
			gives(t, "Flush", f.Flush(), api.OK)
			if f.Dirty() != 0 {
				t.Errorf("Dirty %d", f.Dirty())
			}
			lasts(t, f, last)
		}
		gives(t, "Write", f.Write(put(20, 0, 1)), api.OK)
		gives(t, "Restart", f.Restart(), api.OK)
		for sector, want := range last {
			holds(t, f, sector, want)
		}
	}
}

// P12.2, P12.5: the largest cache.
func TestLargestCache(t *testing.T) {
	c := api.FTLConfig{Sectors: 8, Spare: 1, Cache: api.MaxCache, MaxGroup: 4}
	f := layer(t, device(t, small), c)
	for i := range api.MaxCache {
		gives(t, "Write", f.Write(put(20, i%8, i)), api.OK)
	}
	if f.Dirty() != api.MaxCache || f.Device().Operations() != 0 {
		t.Errorf("Dirty %d, %d operations", f.Dirty(), f.Device().Operations())
	}
	gives(t, "Write", f.Write(put(20, 1, 5000)), api.OK)
	if f.Dirty() != api.MaxCache {
		t.Errorf("Dirty %d", f.Dirty())
	}
	lasts(t, f, [][]byte{filled(20, 0), nil})
	holds(t, f, 1, filled(20, 5000))
	holds(t, f, 2, filled(20, 1018))
	gives(t, "Flush", f.Flush(), api.OK)
	lasts(t, f, [][]byte{filled(20, 1016), filled(20, 5000), filled(20, 1018), filled(20, 1019)})
}

// P12.5: a layer and its copy do not affect each other, in whichever state they are.
func TestCopy(t *testing.T) {
	for name, l := range layers(t) {
		for _, twice := range []bool{false, true} {
			t.Run(fmt.Sprint(name, " ", twice), func(t *testing.T) {
				f := l.f.Copy()
				if twice {
					f = f.Copy()
				}
				if f.Device() == l.f.Device() || state(f) != state(l.f) {
					t.Fatalf("%s, not %s", state(f), state(l.f))
				}
				if l.e != api.OK {
					refuses(t, f, "Write", func() api.Errno { return f.Write(put(20, 4, 1)) }, l.e)
				}
				x, y := f, l.f.Copy()
				for range 2 {
					refuses(t, x, "calls of the other layer", func() api.Errno {
						gives(t, "Restart", y.Restart(), api.OK)
						for i := range 60 {
							gives(t, "Write", y.Write(put(20, i%8, 90+i), put(20, (i+2)%8, 95+i)), api.OK)
						}
						gives(t, "Trim", y.Trim(0, 7), api.OK)
						return api.OK
					}, api.OK)
					x, y = y, x
				}
			})
		}
	}
}

// P12.5: groups that wait in the cache of a copy are its own.
func TestCopyCache(t *testing.T) {
	c := few
	c.Cache = 4
	f := layer(t, device(t, small), c)
	gives(t, "Write", f.Write(put(20, 0, 1)), api.OK)
	gives(t, "Write", f.Write(put(20, 1, 2)), api.OK)
	gives(t, "Write", f.Write(put(20, 2, 3)), api.OK)
	g := f.Copy()
	gives(t, "Write", f.Write(put(20, 3, 4)), api.OK)
	gives(t, "Write", g.Write(put(20, 3, 5)), api.OK)
	holds(t, f, 3, filled(20, 4))
	holds(t, g, 3, filled(20, 5))
	gives(t, "Flush", f.Flush(), api.OK)
	if f.Dirty() != 0 || g.Dirty() != 4 {
		t.Errorf("Dirty %d and %d", f.Dirty(), g.Dirty())
	}
	lasts(t, g, make([][]byte, 8))
	gives(t, "Flush", g.Flush(), api.OK)
	lasts(t, f, [][]byte{filled(20, 1), filled(20, 2), filled(20, 3), filled(20, 4)})
	lasts(t, g, [][]byte{filled(20, 1), filled(20, 2), filled(20, 3), filled(20, 5)})
}
