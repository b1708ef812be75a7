package flash_test

import (
	"bytes"
	"fmt"
	"math"
	"slices"
	"testing"

	"capsule/api"
	"capsule/flash"
)

// small is a geometry with few bytes, of which all can be looked at.
var small = api.Geometry{Blocks: 3, Pages: 4, Size: 5, Endurance: 3}

// filled returns n bytes that differ from each other, from those of other seeds, and from FF.
func filled(n, seed int) []byte {
	b := make([]byte, n)
	for i := range b {
		b[i] = byte((i + seed*37) % 251)
	}
	return b
}

// spared returns spare bytes.
func spared(seed int) []byte {
	return filled(api.SpareSize, seed+100)
}

func made(t *testing.T, g api.Geometry, faults ...int) *flash.Device {
	t.Helper()
	d, e := flash.New(g, faults...)
	if e != api.OK || d == nil {
		t.Fatalf("New(%v, %v): %v, %v", g, faults, d, e)
	}
	return d
}

// gives fails the test unless a call has returned this error.
func gives(t *testing.T, what string, got, want api.Errno) {
	t.Helper()
	if got != want {
		t.Errorf("%s: %v, not %v", what, got, want)
	}
}

// programs programs the next page of a block with the bytes of a seed, and fails the test unless the call returns this error.
func programs(t *testing.T, d *flash.Device, block, seed int, want api.Errno) {
	t.Helper()
	gives(t, fmt.Sprintf("Program(%d, %d)", block, d.Next(block)), d.Program(block, d.Next(block), filled(d.Geometry().Size, seed), spared(seed)), want)
}

// holds fails the test unless a page contains the bytes of a seed.
func holds(t *testing.T, d *flash.Device, block, page, seed int) {
	t.Helper()
	data, spare, e := d.Read(block, page)
	if e != api.OK || !bytes.Equal(data, filled(d.Geometry().Size, seed)) || !bytes.Equal(spare, spared(seed)) {
		t.Errorf("Read(%d, %d): %x, %x, %v", block, page, data, spare, e)
	}
	isPage(t, d, block, page, api.PageProgrammed)
}

// cannotRead fails the test unless Read returns this error and nothing else.
func cannotRead(t *testing.T, d *flash.Device, block, page int, want api.Errno) {
	t.Helper()
	if data, spare, e := d.Read(block, page); data != nil || spare != nil || e != want {
		t.Errorf("Read(%d, %d): %x, %x, %v, not %v", block, page, data, spare, e, want)
	}
}

// isPage fails the test unless a page has this state.
func isPage(t *testing.T, d *flash.Device, block, page int, want api.PageState) {
	t.Helper()
	if s := d.State(block, page); s != want {
		t.Errorf("State(%d, %d): %v, not %v", block, page, s, want)
	}
}

// isBlock fails the test unless a block has this next page and this erase count.
func isBlock(t *testing.T, d *flash.Device, block, next, erases int) {
	t.Helper()
	if n, m := d.Next(block), d.Erases(block); n != next || m != erases {
		t.Errorf("block %d: Next %d, Erases %d, not %d, %d", block, n, m, next, erases)
	}
}

// isAt fails the test unless so many operations were executed and the power is as it should be.
func isAt(t *testing.T, d *flash.Device, operations int, powered bool) {
	t.Helper()
	if n, on := d.Operations(), d.Powered(); n != operations || on != powered {
		t.Errorf("Operations %d, Powered %t, not %d, %t", n, on, operations, powered)
	}
}

// look describes all that a device shows without being changed.
func look(d *flash.Device) string {
	g := d.Geometry()
	text := fmt.Sprint(g, d.Powered(), d.Operations())
	for block, erases := range d.Wear() {
		text += fmt.Sprint("\nblock ", block, erases, d.Erases(block), d.Next(block))
		for page := range g.Pages {
			data, spare, e := d.Read(block, page)
			text += fmt.Sprintf(" %d %d %x %x", d.State(block, page), e, data, spare)
		}
	}
	return text
}

// future describes what becomes of the device by the next operations: so it shows the faults and the pending cut. The device is used up.
func future(d *flash.Device) string {
	text := ""
	if !d.Powered() {
		d.Restart()
		text += "restarted " + look(d)
	}
	g := d.Geometry()
	for i := range 12 {
		block := i % g.Blocks
		e := api.ErrWorn
		if i%5 > 0 {
			e = d.Erase(block)
		}
		if e == api.ErrWorn {
			e = d.Program(block, d.Next(block)%g.Pages, filled(g.Size, i), spared(i))
		}
		text += fmt.Sprint(" ", e, d.Powered())
		if !d.Powered() {
			d.Restart()
			text += look(d)
		}
	}
	return text + "\nfinally " + look(d)
}

// whole describes a device: what it shows, and what is to come.
func whole(d *flash.Device) string {
	return look(d) + "\nfuture" + future(d.Copy())
}

// unchanged fails the test if the calls change the device.
func unchanged(t *testing.T, d *flash.Device, calls func()) {
	t.Helper()
	before := whole(d)
	calls()
	if after := whole(d); after != before {
		t.Errorf("the device was\n%s\nand is\n%s", before, after)
	}
}

var extremes = []int{math.MinInt, math.MinInt + 1, math.MinInt32, -4097, -1, math.MaxInt32, 1 << 32, math.MaxInt - 1, math.MaxInt}

// P4.1, P4.4: every field of a geometry at its limits and between them; Geometry returns it.
func TestValidGeometries(t *testing.T) {
	for _, g := range []api.Geometry{
		{Blocks: 2, Pages: 2, Size: 1, Endurance: 1},
		{Blocks: 4096, Pages: 2, Size: 1, Endurance: 1},
		{Blocks: 2, Pages: 512, Size: 1, Endurance: 1},
		{Blocks: 2, Pages: 2, Size: 8192, Endurance: 1},
		{Blocks: 2, Pages: 2, Size: 1, Endurance: 1 << 20},
		{Blocks: 4096, Pages: 512, Size: 8192, Endurance: 1 << 20},
		{Blocks: 40, Pages: 8, Size: 4160, Endurance: 1000},
		{Blocks: 4095, Pages: 511, Size: 8191, Endurance: 1<<20 - 1},
		{Blocks: 3, Pages: 3, Size: 2, Endurance: 2},
	} {
		d := made(t, g, 7)
		if d.Geometry() != g {
			t.Errorf("Geometry: %v, not %v", d.Geometry(), g)
		}
		isAt(t, d, 0, true)
		last := g.Blocks - 1
		isBlock(t, d, last, 0, 0)
		isPage(t, d, last, g.Pages-1, api.PageErased)
		for i := range g.Pages {
			if i != 7 {
				programs(t, d, last, i, api.OK)
				continue
			}
			programs(t, d, last, i, api.ErrProgram)
		}
		holds(t, d, last, min(g.Pages-1, 6), min(g.Pages-1, 6))
		isBlock(t, d, last, g.Pages, 0)
	}
}

// P4.1: a geometry with one field beyond its limits is rejected, with faults and without them.
func TestInvalidGeometries(t *testing.T) {
	fields := []struct {
		set  func(*api.Geometry, int)
		most int
		low  int
	}{
		{func(g *api.Geometry, n int) { g.Blocks = n }, 4096, 2},
		{func(g *api.Geometry, n int) { g.Pages = n }, 512, 2},
		{func(g *api.Geometry, n int) { g.Size = n }, 8192, 1},
		{func(g *api.Geometry, n int) { g.Endurance = n }, 1 << 20, 1},
	}
	for i, f := range fields {
		for _, n := range append([]int{f.low - 1, f.most + 1, 0, f.low - 2, f.most * 2}, extremes...) {
			g := small
			f.set(&g, n)
			for _, faults := range [][]int{nil, {0}, {-1}} {
				if d, e := flash.New(g, faults...); d != nil || e != api.ErrArg {
					t.Errorf("field %d, New(%v, %v): %v, %v", i, g, faults, d, e)
				}
			}
		}
	}
	if d, e := flash.New(api.Geometry{}); d != nil || e != api.ErrArg {
		t.Errorf("New of no geometry: %v, %v", d, e)
	}
}

// P4.1: a negative fault is rejected wherever it stands.
func TestNegativeFaults(t *testing.T) {
	for _, faults := range [][]int{{-1}, {math.MinInt}, {-1, 2, 3}, {1, -2, 3}, {1, 2, math.MinInt32}, {-1, -1}} {
		if d, e := flash.New(small, faults...); d != nil || e != api.ErrArg {
			t.Errorf("New with the faults %v: %v, %v", faults, d, e)
		}
	}
}

// P4.1: faults in any order, given twice, and of operations that never come; they are not retained.
func TestFaults(t *testing.T) {
	faults := []int{5, 1, math.MaxInt, 1, 5, 3, 1 << 40}
	d := made(t, small, faults...)
	for i := range faults {
		faults[i] = i
	}
	for i := range 8 {
		want := api.OK
		if i == 1 || i == 3 || i == 5 {
			want = api.ErrProgram
		}
		programs(t, d, i/4, i, want)
	}
	isAt(t, d, 8, true)
	none := made(t, small)
	for i := range 12 {
		programs(t, none, i/4, i, api.OK)
	}
}

// P4.1, P4.4: in a new device all pages are erased, no block has been erased yet, and the power is on.
func TestNew(t *testing.T) {
	d := made(t, small)
	isAt(t, d, 0, true)
	for block := range small.Blocks {
		isBlock(t, d, block, 0, 0)
		for page := range small.Pages {
			isPage(t, d, block, page, api.PageErased)
			cannotRead(t, d, block, page, api.ErrErased)
		}
	}
}

// P4.1 to P4.4, P1: a nil and a zero device with every method.
func TestNoDevice(t *testing.T) {
	for name, d := range map[string]*flash.Device{"nil": nil, "zero": {}} {
		for _, n := range append([]int{0, 1}, extremes...) {
			gives(t, name+" Program", d.Program(n, n, nil, nil), api.ErrNil)
			gives(t, name+" Program", d.Program(n, 0, filled(5, 0), spared(0)), api.ErrNil)
			cannotRead(t, d, n, n, api.ErrNil)
			gives(t, name+" Erase", d.Erase(n), api.ErrNil)
			gives(t, name+" Cut", d.Cut(n, n), api.ErrNil)
			isBlock(t, d, n, 0, 0)
			isPage(t, d, n, n, api.PageNone)
		}
		gives(t, name+" Restart", d.Restart(), api.ErrNil)
		isAt(t, d, 0, false)
		if d.Geometry() != (api.Geometry{}) || d.Copy() != nil {
			t.Errorf("%s: Geometry %v, Copy %v", name, d.Geometry(), d.Copy())
		}
		for range 2 {
			for block, erases := range d.Wear() {
				t.Errorf("%s: Wear yields %d, %d", name, block, erases)
			}
		}
	}
}

// P4.4: what is said of blocks and pages that do not exist.
func TestNoPlace(t *testing.T) {
	d := made(t, small)
	programs(t, d, 0, 1, api.OK)
	programs(t, d, 2, 1, api.OK)
	gives(t, "Erase", d.Erase(2), api.OK)
	for _, n := range append([]int{3, 4, 5}, extremes...) {
		isBlock(t, d, n, 0, 0)
		for page := range small.Pages {
			isPage(t, d, n, page, api.PageNone)
		}
		for block := range small.Blocks {
			if n != 3 { // which is a page
				isPage(t, d, block, n, api.PageNone)
			}
		}
		isPage(t, d, n, n, api.PageNone)
	}
	isPage(t, d, 2, 3, api.PageErased)
	isPage(t, d, 2, 4, api.PageNone)
	isPage(t, d, 3, 3, api.PageNone)
}

func worn(d *flash.Device) []int {
	var l []int
	for block, erases := range d.Wear() {
		if block != len(l) {
			return nil
		}
		l = append(l, erases)
	}
	return l
}

// P4.4: Wear yields every block in order with its erase count, with the power on and off.
func TestWear(t *testing.T) {
	d := made(t, small, 2)
	if got := worn(d); !slices.Equal(got, []int{0, 0, 0}) {
		t.Error(got)
	}
	gives(t, "Erase", d.Erase(2), api.OK)
	gives(t, "Erase", d.Erase(2), api.OK)
	gives(t, "Erase", d.Erase(1), api.ErrErase)
	if got := worn(d); !slices.Equal(got, []int{0, 1, 2}) {
		t.Error(got)
	}
	gives(t, "Cut", d.Cut(3, 0), api.OK)
	gives(t, "Erase", d.Erase(0), api.ErrPower)
	if got := worn(d); !slices.Equal(got, []int{1, 1, 2}) {
		t.Error(got)
	}
	if got := worn(made(t, api.Geometry{Blocks: 4096, Pages: 2, Size: 1, Endurance: 1})); len(got) != 4096 || slices.Max(got) != 0 {
		t.Error(len(got))
	}
}

// P4.4: an iterator may be left early and used again, also within its own loop.
func TestWearLeftEarly(t *testing.T) {
	d := made(t, small)
	gives(t, "Erase", d.Erase(1), api.OK)
	seq := d.Wear()
	for last := range small.Blocks {
		var outer []int
		for block, erases := range seq {
			outer = append(outer, erases)
			for inner := range seq {
				if inner == 1 {
					break
				}
			}
			if block == last {
				break
			}
		}
		if want := []int{0, 1, 0}[:last+1]; !slices.Equal(outer, want) {
			t.Errorf("%v, not %v", outer, want)
		}
	}
	yielded := 0
	for range seq {
		yielded++
	}
	if yielded != small.Blocks {
		t.Error(yielded)
	}
}

// P4.4: an iterator yields the erase counts as they were when Wear was called, even if its loop changes them.
func TestWearAtTheCall(t *testing.T) {
	d := made(t, small)
	gives(t, "Erase", d.Erase(0), api.OK)
	seq := d.Wear()
	gives(t, "Erase", d.Erase(0), api.OK)
	gives(t, "Erase", d.Erase(2), api.OK)
	for range 2 {
		var l []int
		for block, erases := range seq {
			l = append(l, erases)
			d.Erase(block)
		}
		if !slices.Equal(l, []int{1, 0, 0}) {
			t.Error(l)
		}
	}
	if got := worn(d); !slices.Equal(got, []int{3, 2, 3}) {
		t.Error(got)
	}
}

// P4.4: a copy is in the same state, with its faults and its pending cut, and neither is changed by the other's calls.
func TestCopy(t *testing.T) {
	d := made(t, small, 3, 6)
	programs(t, d, 0, 1, api.OK)
	programs(t, d, 0, 2, api.OK)
	gives(t, "Erase", d.Erase(1), api.OK)
	gives(t, "Cut", d.Cut(5, 9), api.OK)
	before := look(d)
	for _, pair := range [][2]*flash.Device{{d.Copy(), d.Copy()}, {d, d.Copy()}} {
		used, kept := pair[0], pair[1]
		programs(t, used, 0, 3, api.ErrProgram)
		gives(t, "Erase", used.Erase(0), api.OK)
		programs(t, used, 1, 4, api.ErrPower)
		isPage(t, used, 1, 0, api.PageTorn)
		if got := look(kept); got != before {
			t.Errorf("the other device was\n%s\nand is\n%s", before, got)
		}
		programs(t, kept, 0, 5, api.ErrProgram)
		programs(t, kept, 0, 6, api.OK)
		gives(t, "Erase", kept.Erase(0), api.ErrPower)
		isAt(t, kept, 6, false)
		isAt(t, used, 6, false)
		gives(t, "Restart", kept.Restart(), api.OK)
		isAt(t, used, 6, false)
		programs(t, kept, 1, 7, api.ErrProgram)
		isPage(t, used, 1, 1, api.PageErased)
	}
}

// P4.4: a cut of a copy is not one of the original, and the other way round.
func TestCopyCut(t *testing.T) {
	d := made(t, small)
	c := d.Copy()
	gives(t, "Cut", c.Cut(0, 3), api.OK)
	programs(t, d, 0, 1, api.OK)
	programs(t, c, 0, 1, api.ErrPower)
	off := c.Copy()
	isAt(t, off, 1, false)
	gives(t, "Restart", c.Restart(), api.OK)
	isAt(t, off, 1, false)
	gives(t, "Cut", d.Cut(1, 3), api.OK)
	c = d.Copy()
	gives(t, "Restart", d.Restart(), api.OK)
	programs(t, d, 0, 2, api.OK)
	programs(t, c, 0, 2, api.ErrPower)
}

// P4.4: both devices go on in blocks that were partly written before the copy was made.
func TestCopyContents(t *testing.T) {
	for n := range small.Pages {
		d := made(t, small)
		for i := range n {
			programs(t, d, 0, i, api.OK)
		}
		c := d.Copy()
		for i := n; i < small.Pages; i++ {
			programs(t, d, 0, 10+i, api.OK)
			programs(t, c, 0, 20+i, api.OK)
		}
		for i := range small.Pages {
			if i < n {
				holds(t, d, 0, i, i)
				holds(t, c, 0, i, i)
				continue
			}
			holds(t, d, 0, i, 10+i)
			holds(t, c, 0, i, 20+i)
		}
	}
}

// P1: extreme arguments of every method, on a device with the power on and off.
func TestExtremeArguments(t *testing.T) {
	for _, on := range []bool{true, false} {
		d := made(t, small)
		programs(t, d, 0, 1, api.OK)
		if !on {
			gives(t, "Cut", d.Cut(1, 2), api.OK)
			gives(t, "Erase", d.Erase(1), api.ErrPower)
		}
		unchanged(t, d, func() {
			for _, n := range extremes {
				for _, m := range append([]int{0, 1}, extremes...) {
					gives(t, "Program", d.Program(n, m, filled(5, 1), spared(1)), api.ErrArg)
					gives(t, "Program", d.Program(m, n, filled(5, 1), spared(1)), api.ErrArg)
					cannotRead(t, d, n, m, api.ErrArg)
					cannotRead(t, d, m, n, api.ErrArg)
					gives(t, "Cut", d.Cut(m, n), api.ErrArg)
				}
				gives(t, "Erase", d.Erase(n), api.ErrArg)
			}
		})
	}
}
