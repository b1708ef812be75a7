package ftl_test

import (
	"bytes"
	"math"
	"slices"
	"testing"

	"capsule/api"
	"capsule/appender"
	"capsule/flash"
	"capsule/ftl"
	"capsule/mapping"
	"capsule/spare"
)

// device returns a new device.
func device(t *testing.T, g api.Geometry, faults ...int) *flash.Device {
	t.Helper()
	d, e := flash.New(g, faults...)
	if e != api.OK {
		t.Fatalf("flash.New: %v", e)
	}
	return d
}

// layer returns a layer on a device.
func layer(t *testing.T, d *flash.Device, c api.FTLConfig) *ftl.FTL {
	t.Helper()
	f, e := ftl.New(d, c)
	if e != api.OK || f == nil {
		t.Fatalf("New: %v, %v", f, e)
	}
	return f
}

// gives fails the test unless a call has returned an error.
func gives(t *testing.T, name string, e, want api.Errno) {
	t.Helper()
	if e != want {
		t.Errorf("%s: %v, not %v", name, e, want)
	}
}

// filled returns data that differ from those of other seeds.
func filled(size, seed int) []byte {
	b := make([]byte, size)
	for i := range b {
		b[i] = byte(seed >> (i % 3 * 8))
	}
	return b
}

// put returns the change that writes such data to a sector.
func put(size, sector, seed int) api.SectorWrite {
	return api.SectorWrite{Sector: sector, Data: filled(size, seed)}
}

// blank returns the contents of a sector, which are zero bytes if it has none.
func blank(b []byte, size int) []byte {
	if len(b) == 0 {
		return make([]byte, size)
	}
	return b
}

// holds fails the test unless a sector has these contents; none are zero bytes.
func holds(t *testing.T, f *ftl.FTL, sector int, want []byte) {
	t.Helper()
	want = blank(want, f.Device().Geometry().Size)
	if b, e := f.Read(sector); e != api.OK || !bytes.Equal(b, want) {
		t.Errorf("Read(%d): %x, %v, not %x", sector, b, e, want)
	}
}

// cannotRead fails the test unless reading a sector is an error.
func cannotRead(t *testing.T, f *ftl.FTL, sector int, want api.Errno) {
	t.Helper()
	if b, e := f.Read(sector); b != nil || e != want {
		t.Errorf("Read(%d): %x, %v, not %v", sector, b, e, want)
	}
}

// cannotMake fails the test unless New returns this error and nothing else.
func cannotMake(t *testing.T, d *flash.Device, c api.FTLConfig, want api.Errno) {
	t.Helper()
	if f, e := ftl.New(d, c); f != nil || e != want {
		t.Errorf("New(%+v): %v, %v, not %v", c, f, e, want)
	}
}

// small is the device of the chapter's examples, and few a configuration for it.
var (
	small = api.Geometry{Blocks: 24, Pages: 4, Size: 20, Endurance: 99}
	few   = api.FTLConfig{Sectors: 8, Spare: 1, Cache: 1, MaxGroup: 2}
)

// P12.1 to P12.5: the chapter's examples.
func TestExamples(t *testing.T) {
	d := device(t, small)
	if n := ftl.Reserve(small, 8); n != 18 || !ftl.Fits(small, few) {
		t.Errorf("Reserve %d", n)
	}
	large := few
	large.MaxGroup = 5
	cannotMake(t, d, large, api.ErrArg)
	f := layer(t, d, few)
	x, y := bytes.Repeat([]byte{0x78}, 20), bytes.Repeat([]byte{0x79}, 20)
	gives(t, "Write", f.Write(api.SectorWrite{Sector: 3, Data: x}), api.OK)
	if f.Dirty() != 1 {
		t.Errorf("Dirty %d", f.Dirty())
	}
	gives(t, "Write", f.Write(api.SectorWrite{Sector: 3, Data: y}, api.SectorWrite{Sector: 4, Data: y}), api.OK)
	if f.Dirty() != 1 {
		t.Errorf("Dirty %d", f.Dirty())
	}
	holds(t, f, 3, y)
	gives(t, "Restart", f.Restart(), api.OK)
	holds(t, f, 3, x)
	holds(t, f, 4, nil)
	gives(t, "Trim", f.Trim(3, 1), api.OK)
	gives(t, "Flush", f.Flush(), api.OK)
	gives(t, "Restart", f.Restart(), api.OK)
	holds(t, f, 3, nil)
	gives(t, "Trim", f.Trim(7, 2), api.ErrRange)
	gives(t, "Write", f.Write(), api.ErrArg)
	cannotRead(t, f, 8, api.ErrRange)
	if f.Spare() != 1 {
		t.Errorf("Spare %d", f.Spare())
	}
}

// notValid returns geometries that are not valid, or whose pages are too small.
func notValid() []api.Geometry {
	var l []api.Geometry
	for _, change := range []func(*api.Geometry){
		func(g *api.Geometry) { g.Blocks = 1 },
		func(g *api.Geometry) { g.Blocks = 4097 },
		func(g *api.Geometry) { g.Blocks = math.MinInt },
		func(g *api.Geometry) { g.Pages = 1 },
		func(g *api.Geometry) { g.Pages = 0 },
		func(g *api.Geometry) { g.Pages = 513 },
		func(g *api.Geometry) { g.Pages = math.MaxInt },
		func(g *api.Geometry) { g.Size = 11 },
		func(g *api.Geometry) { g.Size = 1 },
		func(g *api.Geometry) { g.Size = 0 },
		func(g *api.Geometry) { g.Size = 8193 },
		func(g *api.Geometry) { g.Endurance = 0 },
		func(g *api.Geometry) { g.Endurance = 1<<20 + 1 },
	} {
		g := small
		change(&g)
		l = append(l, g)
	}
	return append(l, api.Geometry{})
}

// P12.1: the reserve, on both sides of each limit.
func TestReserve(t *testing.T) {
	for _, c := range []struct{ pages, size, sectors, want int }{
		{4, 20, 1, 18}, {4, 20, 8, 18}, {4, 20, 9, 21}, {4, 20, 16, 21}, {4, 20, 17, 24},
		{2, 12, 1, 18}, {2, 12, 2, 18}, {2, 12, 3, 21}, {2, 12, 4, 21}, {2, 12, 100, 165},
		{4, 27, 8, 18}, {4, 28, 12, 18}, {4, 28, 13, 21},
		{64, 4160, 33216, 18}, {64, 4160, 33217, 21}, {512, 8192, 1 << 20, 24},
		{512, 12, mapping.MaxSectors, 3*(32768+1) + 12},
		{512, 8192, mapping.MaxSectors, 3*(33+1) + 12},
		{4, 20, 0, 0}, {4, 20, -1, 0}, {4, 20, math.MinInt, 0}, {4, 20, mapping.MaxSectors + 1, 0}, {4, 20, math.MaxInt, 0},
		{4, 11, 8, 0}, {4, 12, 8, 21}, {4, 8193, 8, 0},
	} {
		g := api.Geometry{Blocks: 9, Pages: c.pages, Size: c.size, Endurance: 1}
		if n := ftl.Reserve(g, c.sectors); n != c.want {
			t.Errorf("Reserve(%+v, %d): %d, not %d", g, c.sectors, n, c.want)
		}
	}
	for _, g := range notValid() {
		if n := ftl.Reserve(g, 8); n != 0 {
			t.Errorf("Reserve(%+v): %d", g, n)
		}
	}
}

// P12.1: what fits, on both sides of each limit; New agrees.
func TestFits(t *testing.T) {
	for _, c := range []struct {
		change func(*api.FTLConfig)
		want   bool
	}{
		{func(c *api.FTLConfig) {}, true},
		{func(c *api.FTLConfig) { c.Sectors = 0 }, false},
		{func(c *api.FTLConfig) { c.Sectors = -1 }, false},
		{func(c *api.FTLConfig) { c.Sectors = math.MinInt }, false},
		{func(c *api.FTLConfig) { c.Sectors = 1 }, true},
		{func(c *api.FTLConfig) { c.Sectors = 9 }, false}, // the reserve is 21 then
		{func(c *api.FTLConfig) { c.Sectors = mapping.MaxSectors }, false},
		{func(c *api.FTLConfig) { c.Sectors = mapping.MaxSectors + 1 }, false},
		{func(c *api.FTLConfig) { c.Sectors = math.MaxInt }, false},
		{func(c *api.FTLConfig) { c.Spare = -1 }, false},
		{func(c *api.FTLConfig) { c.Spare = math.MinInt }, false},
		{func(c *api.FTLConfig) { c.Spare = 0 }, true},
		{func(c *api.FTLConfig) { c.Spare = 4 }, true}, // 24 - 18 - 4 blocks remain for 8 sectors
		{func(c *api.FTLConfig) { c.Spare = 5 }, false},
		{func(c *api.FTLConfig) { c.Spare, c.Sectors = 5, 4 }, true},
		{func(c *api.FTLConfig) { c.Spare, c.Sectors = 5, 5 }, false},
		{func(c *api.FTLConfig) { c.Spare, c.Sectors = 6, 1 }, false},
		{func(c *api.FTLConfig) { c.Spare, c.Sectors = 0, 9 }, true}, // 24 - 21 blocks remain
		{func(c *api.FTLConfig) { c.Spare, c.Sectors = 0, 12 }, true},
		{func(c *api.FTLConfig) { c.Spare, c.Sectors = 0, 13 }, false},
		{func(c *api.FTLConfig) { c.Spare = 24 }, false},
		{func(c *api.FTLConfig) { c.Spare = 25 }, false},
		{func(c *api.FTLConfig) { c.Spare = math.MaxInt }, false},
		{func(c *api.FTLConfig) { c.Spare = math.MaxInt - 18 }, false},
		{func(c *api.FTLConfig) { c.Cache = -1 }, false},
		{func(c *api.FTLConfig) { c.Cache = 0 }, true},
		{func(c *api.FTLConfig) { c.Cache = api.MaxCache }, true},
		{func(c *api.FTLConfig) { c.Cache = api.MaxCache + 1 }, false},
		{func(c *api.FTLConfig) { c.MaxGroup = -1 }, false},
		{func(c *api.FTLConfig) { c.MaxGroup = 0 }, false},
		{func(c *api.FTLConfig) { c.MaxGroup = 1 }, true},
		{func(c *api.FTLConfig) { c.MaxGroup = 4 }, true},
		{func(c *api.FTLConfig) { c.MaxGroup = 5 }, false},
	} {
		config := few
		c.change(&config)
		if ftl.Fits(small, config) != c.want {
			t.Errorf("Fits(%+v) is not %v", config, c.want)
		}
		if c.want {
			layer(t, device(t, small), config)
		} else {
			cannotMake(t, device(t, small), config, api.ErrArg)
		}
	}
	for _, g := range notValid() {
		if ftl.Fits(g, few) || ftl.Fits(g, api.FTLConfig{MaxGroup: 1}) {
			t.Errorf("%+v fits", g)
		}
	}
}

// P12.1: geometries at both sides of the number of blocks that are needed, and sectors up to the last one that fits.
func TestFitsBlocks(t *testing.T) {
	for _, g := range []api.Geometry{{Pages: 2, Size: 12, Endurance: 1}, {Pages: 3, Size: 30, Endurance: 9}, {Pages: 512, Size: 8192, Endurance: 1 << 20}} {
		for _, sectors := range []int{1, 2, 3, 7, 40, 600} {
			g.Blocks = 2
			c := api.FTLConfig{Sectors: sectors, Spare: 3, MaxGroup: 2}
			g.Blocks = 3 + ftl.Reserve(g, sectors) + (sectors+g.Pages-1)/g.Pages
			if !ftl.Fits(g, c) {
				t.Errorf("%+v does not fit %+v", c, g)
			}
			g.Blocks--
			if ftl.Fits(g, c) {
				t.Errorf("%+v fits %+v", c, g)
			}
		}
	}
	g := api.Geometry{Blocks: 4096, Pages: 512, Size: api.SectorSize, Endurance: 1}
	most := 512 * (4096 - ftl.Reserve(g, 1<<21)) // the reserve is the same for somewhat fewer sectors
	if !ftl.Fits(g, api.FTLConfig{Sectors: most, MaxGroup: 512}) || ftl.Fits(g, api.FTLConfig{Sectors: most + 1, MaxGroup: 512}) {
		t.Errorf("%d is not the highest number of sectors", most)
	}
}

// sameDevice fails the test unless two devices contain the same pages.
func sameDevice(t *testing.T, d, want *flash.Device) {
	t.Helper()
	if d.Operations() != want.Operations() || d.Powered() != want.Powered() {
		t.Errorf("%d operations, power %v; not %d, %v", d.Operations(), d.Powered(), want.Operations(), want.Powered())
	}
	for block := range want.Geometry().Blocks {
		for page := range want.Geometry().Pages {
			data, rest, e := d.Read(block, page)
			data2, rest2, e2 := want.Read(block, page)
			if !bytes.Equal(data, data2) || !bytes.Equal(rest, rest2) || e != e2 || d.State(block, page) != want.State(block, page) {
				t.Errorf("block %d, page %d: %x, %x, %v; not %x, %x, %v", block, page, data, rest, e, data2, rest2, e2)
			}
		}
	}
}

// off returns a device without power.
func off(t *testing.T, d *flash.Device) *flash.Device {
	t.Helper()
	gives(t, "Cut", d.Cut(d.Operations(), 0), api.OK)
	gives(t, "Erase", d.Erase(0), api.ErrPower)
	return d
}

// P12.1: the errors of New, in their order.
func TestNewErrors(t *testing.T) {
	bad := few
	bad.MaxGroup = 0
	cannotMake(t, nil, few, api.ErrNil)
	cannotMake(t, &flash.Device{}, few, api.ErrNil)
	cannotMake(t, nil, bad, api.ErrNil)
	cannotMake(t, nil, api.FTLConfig{}, api.ErrNil)
	cannotMake(t, off(t, device(t, small)), bad, api.ErrArg)
	cannotMake(t, off(t, device(t, small)), few, api.ErrPower)
	tiny := small
	tiny.Size = 11
	cannotMake(t, device(t, tiny), few, api.ErrArg)
	cannotMake(t, off(t, device(t, tiny)), few, api.ErrArg)
	wrong := written(t, few, put(20, 7, 1))
	fewer := few
	fewer.Sectors = 7
	cannotMake(t, wrong, fewer, api.ErrFormat)
	fewer.MaxGroup = 9
	cannotMake(t, wrong, fewer, api.ErrArg)
	fewer.MaxGroup = 1
	gives(t, "Cut", wrong.Cut(wrong.Operations(), 0), api.OK)
	gives(t, "Erase", wrong.Erase(20), api.ErrPower)
	cannotMake(t, wrong, fewer, api.ErrPower)
}

// written returns a device that a layer has written a group to.
func written(t *testing.T, c api.FTLConfig, l ...api.SectorWrite) *flash.Device {
	t.Helper()
	d := device(t, small)
	f := layer(t, d, c)
	gives(t, "Write", f.Write(l...), api.OK)
	gives(t, "Flush", f.Flush(), api.OK)
	return d
}

// program programs the next page of a block.
func program(t *testing.T, d *flash.Device, block int, s api.Spare, data []byte) {
	t.Helper()
	rest, e := spare.Encode(s, data)
	gives(t, "Encode", e, api.OK)
	gives(t, "Program", d.Program(block, d.Next(block), data, rest), api.OK)
}

// P12.1: devices whose contents do not fit: entries that the map does not accept, sectors that are not where the journal says, page numbers that are too high, and a block in which sectors and journal are mixed. New changes nothing there.
func TestNewFormat(t *testing.T) {
	data := filled(20, 5)
	entry := append([]byte{1, 0, 0, 0, 3, 0, 0, 0, 9, 0, 0, 0}, make([]byte, 8)...) // sector 3 in page 8
	delta := api.Spare{Kind: api.SpareDelta, Sequence: 2, Length: 1}
	for name, write := range map[string]func(*flash.Device){
		"no page": func(d *flash.Device) { program(t, d, 0, delta, entry) },
		"wrong sector": func(d *flash.Device) {
			program(t, d, 0, delta, entry)
			program(t, d, 2, api.Spare{Kind: api.SpareData, Sector: 4, Sequence: 1, Length: 1}, data)
		},
		"high number": func(d *flash.Device) {
			program(t, d, 0, api.Spare{Kind: api.SpareData, Sequence: 1 << 63, Length: 1}, data)
		},
		"mixed": func(d *flash.Device) {
			program(t, d, 2, api.Spare{Kind: api.SpareData, Sector: 3, Sequence: 1, Length: 1}, data)
			program(t, d, 2, delta, entry)
		},
		"no sector": func(d *flash.Device) {
			program(t, d, 2, api.Spare{Kind: api.SpareData, Sector: 8, Sequence: 1, Length: 1}, data)
			program(t, d, 0, delta, append([]byte{1, 0, 0, 0, 8, 0, 0, 0, 9, 0, 0, 0}, make([]byte, 8)...))
		},
	} {
		t.Run(name, func(t *testing.T) {
			d := device(t, small)
			write(d)
			before := d.Copy()
			cannotMake(t, d, few, api.ErrFormat)
			sameDevice(t, d, before)
		})
	}
	d := device(t, small)
	program(t, d, 2, api.Spare{Kind: api.SpareData, Sector: 3, Sequence: 1, Length: 1}, data)
	program(t, d, 0, delta, entry)
	holds(t, layer(t, d, few), 3, data)
}

// P12.1: New executes no operation, keeps the device, and finds what another layer, or an appender, has left there.
func TestNewContents(t *testing.T) {
	d := device(t, small)
	f := layer(t, d, few)
	sameDevice(t, d, device(t, small))
	if f.Device() != d || f.Sectors() != 8 || f.Spare() != 1 || f.Dirty() != 0 {
		t.Errorf("Sectors %d, Spare %d, Dirty %d", f.Sectors(), f.Spare(), f.Dirty())
	}
	for sector := range 8 {
		holds(t, f, sector, nil)
	}
	d = written(t, few, put(20, 7, 1), put(20, 2, 3))
	before := d.Copy()
	c := api.FTLConfig{Sectors: 10, Spare: 0, Cache: 3, MaxGroup: 4}
	f = layer(t, d, c)
	sameDevice(t, d, before)
	for sector := range 10 {
		holds(t, f, sector, map[int][]byte{7: filled(20, 1), 2: filled(20, 3)}[sector])
	}
	if f.Device() != d || f.Sectors() != 10 || f.Spare() != 0 || f.Dirty() != 0 {
		t.Errorf("Sectors %d, Spare %d, Dirty %d", f.Sectors(), f.Spare(), f.Dirty())
	}
	d = device(t, small)
	a, _ := appender.New(d, 8, api.Found{Next: 1 << 40})
	gives(t, "Append", a.Append(put(20, 0, 9), put(20, 5, 4)), api.OK)
	gives(t, "Append", a.Append(api.SectorWrite{Sector: 5}, put(20, 1, 2)), api.OK)
	gives(t, "Checkpoint", a.Checkpoint(), api.OK)
	f = layer(t, d, few)
	for sector := range 8 {
		holds(t, f, sector, map[int][]byte{0: filled(20, 9), 1: filled(20, 2)}[sector])
	}
	gives(t, "Write", f.Write(put(20, 0, 7)), api.OK)
	holds(t, f, 0, filled(20, 7))
}

// P12.1, P12.2: a device all of whose blocks have been written, with nothing that counts: they are erased when room is needed.
func TestNewGarbage(t *testing.T) {
	d := device(t, small)
	for block := range small.Blocks {
		for range 1 + block%small.Pages {
			gives(t, "Program", d.Program(block, d.Next(block), filled(20, block), make([]byte, api.SpareSize)), api.OK)
		}
	}
	p := pairOn(t, d, few, make([][]byte, few.Sectors))
	for i := range 100 {
		gives(t, "Write", p.write(t, put(20, i%8, i), put(20, (i+3)%8, i)), api.OK)
	}
	gives(t, "Flush", p.flush(t), api.OK)
	lasts(t, p.f, p.m.durable)
}

// lasts fails the test unless these contents are durable: a copy of the layer has them after it has been restarted.
func lasts(t *testing.T, f *ftl.FTL, contents [][]byte) {
	t.Helper()
	c := f.Copy()
	gives(t, "Restart", c.Restart(), api.OK)
	if c.Dirty() != 0 {
		t.Errorf("Dirty %d after Restart", c.Dirty())
	}
	for sector, want := range contents {
		holds(t, c, sector, want)
	}
}

// P12.1 to P12.5: the functions of a nil and of a zero layer.
func TestNil(t *testing.T) {
	for _, f := range []*ftl.FTL{nil, {}} {
		gives(t, "Write", f.Write(put(20, 3, 1)), api.ErrNil)
		gives(t, "Write", f.Write(), api.ErrNil)
		gives(t, "Trim", f.Trim(0, 1), api.ErrNil)
		gives(t, "Trim", f.Trim(-1, -1), api.ErrNil)
		gives(t, "Flush", f.Flush(), api.ErrNil)
		gives(t, "Restart", f.Restart(), api.ErrNil)
		cannotRead(t, f, 0, api.ErrNil)
		cannotRead(t, f, -1, api.ErrNil)
		least, most := f.Wear()
		if f.Sectors() != 0 || f.Spare() != 0 || f.Dirty() != 0 || least != 0 || most != 0 || f.Device() != nil || f.Copy() != nil {
			t.Errorf("%d, %d, %d, %d, %d, %v, %v", f.Sectors(), f.Spare(), f.Dirty(), least, most, f.Device(), f.Copy())
		}
	}
}

// P12.2, P12.3: arguments are neither changed nor kept, with and without a cache, and results are not shared.
func TestMemory(t *testing.T) {
	for _, cache := range []int{0, 1, 3} {
		c := few
		c.Cache = cache
		f := layer(t, device(t, small), c)
		l := []api.SectorWrite{put(20, 3, 1), put(20, 4, 2)}
		gives(t, "Write", f.Write(l...), api.OK)
		if !slices.EqualFunc(l, []api.SectorWrite{put(20, 3, 1), put(20, 4, 2)}, func(a, b api.SectorWrite) bool { return a.Sector == b.Sector && bytes.Equal(a.Data, b.Data) }) {
			t.Errorf("the argument is %v", l)
		}
		clear(l[0].Data)
		l[1] = put(20, 5, 6)
		for range 2 {
			for sector, want := range [][]byte{nil, nil, nil, filled(20, 1), filled(20, 2), nil} {
				holds(t, f, sector, want)
				b, _ := f.Read(sector)
				for i := range b[:cap(b)] {
					b[:cap(b)][i] = 0xEE
				}
				holds(t, f, sector, want)
			}
			gives(t, "Flush", f.Flush(), api.OK)
		}
	}
}
