package flash_test

import (
	"bytes"
	"fmt"
	"math/rand/v2"
	"slices"
	"testing"

	"capsule/api"
	"capsule/flash"
)

// cell is a page: its state, and its data followed by its spare bytes.
type cell struct {
	state api.PageState
	bytes []byte
}

// model is a device as the chapter words it, with all its pages.
type model struct {
	g          api.Geometry
	faults     []int
	cells      [][]cell
	erases     []int
	operations int
	cut        [2]int // the operation (-1: none) and the bytes
	off        bool
}

func newModel(g api.Geometry, faults []int) *model {
	m := &model{g: g, faults: faults, erases: make([]int, g.Blocks), cut: [2]int{-1, 0}}
	for range g.Blocks {
		m.cells = append(m.cells, m.uniform(api.PageErased))
	}
	return m
}

func (m *model) uniform(s api.PageState) []cell {
	return slices.Repeat([]cell{{state: s}}, m.g.Pages)
}

func (m *model) next(block int) int {
	for page, c := range m.cells[block] {
		if c.state == api.PageErased {
			return page
		}
	}
	return m.g.Pages
}

func (m *model) program(block, page int, data, spare []byte) api.Errno {
	if m.off {
		return api.ErrPower
	}
	if page != m.next(block) {
		return api.ErrOrder
	}
	all := append(bytes.Clone(data), spare...)
	operation := m.operations
	m.operations++
	switch {
	case operation == m.cut[0]:
		m.off = true
		c := cell{api.PageTorn, bytes.Repeat([]byte{0xFF}, len(all))}
		copy(c.bytes, all[:m.cut[1]])
		if m.cut[1] == len(all) {
			c.state = api.PageProgrammed
		}
		m.cells[block][page] = c
		return api.ErrPower
	case slices.Contains(m.faults, operation):
		m.cells[block][page] = cell{state: api.PageFailed}
		return api.ErrProgram
	}
	m.cells[block][page] = cell{api.PageProgrammed, all}
	return api.OK
}

func (m *model) erase(block int) api.Errno {
	if m.off {
		return api.ErrPower
	}
	if m.erases[block] == m.g.Endurance {
		return api.ErrWorn
	}
	m.erases[block]++
	operation := m.operations
	m.operations++
	m.cells[block] = m.uniform(api.PageUndefined)
	switch {
	case operation == m.cut[0]:
		m.off = true
		return api.ErrPower
	case slices.Contains(m.faults, operation):
		return api.ErrErase
	}
	m.cells[block] = m.uniform(api.PageErased)
	return api.OK
}

// setCut takes a cut that is valid but for its operation, which may have been executed.
func (m *model) setCut(operation, n int) api.Errno {
	if operation < m.operations {
		return api.ErrArg
	}
	if m.off {
		return api.ErrPower
	}
	m.cut = [2]int{operation, n}
	return api.OK
}

func (m *model) restart() api.Errno {
	m.off = false
	m.cut = [2]int{-1, 0}
	return api.OK
}

func (m *model) read(block, page int) (string, api.Errno) {
	c := m.cells[block][page]
	switch {
	case m.off:
		return "", api.ErrPower
	case c.state == api.PageErased:
		return "", api.ErrErased
	case c.state == api.PageFailed || c.state == api.PageUndefined:
		return "", api.ErrUnreadable
	}
	return string(c.bytes), api.OK
}

// compare fails the test unless the device shows what the model has.
func compare(t *testing.T, d *flash.Device, m *model) {
	t.Helper()
	if d.Powered() == m.off || d.Operations() != m.operations || !slices.Equal(worn(d), m.erases) {
		t.Fatalf("Powered %t, Operations %d, Wear %v, not %t, %d, %v", d.Powered(), d.Operations(), worn(d), !m.off, m.operations, m.erases)
	}
	for block, cells := range m.cells {
		if d.Next(block) != m.next(block) || d.Erases(block) != m.erases[block] {
			t.Fatalf("block %d: Next %d, Erases %d, not %d, %d", block, d.Next(block), d.Erases(block), m.next(block), m.erases[block])
		}
		for page, c := range cells {
			want, e := m.read(block, page)
			data, spare, f := d.Read(block, page)
			if got := string(data) + string(spare); got != want || e != f || d.State(block, page) != c.state {
				t.Fatalf("page %d of %d: %x, %v, %v, not %x, %v, %v", page, block, got, f, d.State(block, page), want, e, c.state)
			}
		}
	}
}

var geometries = []api.Geometry{
	{Blocks: 2, Pages: 2, Size: 1, Endurance: 1 << 20},
	{Blocks: 4, Pages: 3, Size: 7, Endurance: 20},
	{Blocks: 3, Pages: 8, Size: 33, Endurance: 3},
	{Blocks: 9, Pages: 2, Size: 2, Endurance: 1},
}

func someFaults(r *rand.Rand) []int {
	var l []int
	for range r.IntN(12) {
		l = append(l, r.IntN(120))
	}
	return l
}

// step makes the same call on the device and on the model, and returns both results.
func step(r *rand.Rand, d *flash.Device, m *model) (name string, got, want api.Errno) {
	block := r.IntN(m.g.Blocks)
	switch r.IntN(12) {
	case 0, 1:
		return fmt.Sprintf("Erase(%d)", block), d.Erase(block), m.erase(block)
	case 2:
		operation, n := m.operations-2+r.IntN(9), r.IntN(m.g.Size+api.SpareSize+1)
		return fmt.Sprintf("Cut(%d, %d)", operation, n), d.Cut(operation, n), m.setCut(operation, n)
	case 3, 4:
		if m.off || r.IntN(8) == 0 {
			return "Restart", d.Restart(), m.restart()
		}
	case 5:
		page, seed := r.IntN(m.g.Pages), r.IntN(1000)
		data, spare := filled(m.g.Size, seed), spared(seed)
		return fmt.Sprintf("Program(%d, %d)", block, page), d.Program(block, page, data, spare), m.program(block, page, data, spare)
	}
	page, seed := m.next(block)%m.g.Pages, r.IntN(1000)
	data, spare := filled(m.g.Size, seed), spared(seed)
	return fmt.Sprintf("Program(%d, %d)", block, page), d.Program(block, page, data, spare), m.program(block, page, data, spare)
}

// P4.1 to P4.5: long sequences of calls, compared with the model.
func TestModel(t *testing.T) {
	for run := range 60 {
		r := rand.New(rand.NewPCG(4, uint64(run)))
		g, faults := geometries[run%len(geometries)], someFaults(r)
		d, m := made(t, g, faults...), newModel(g, faults)
		for range 200 {
			name, got, want := step(r, d, m)
			gives(t, name, got, want)
			compare(t, d, m)
			if r.IntN(30) == 0 {
				d = d.Copy()
			}
		}
	}
}

// record is what is known of the contents of a device without knowing how it works: the pages that were programmed successfully and not erased since.
type record map[[2]int]int

func (k record) forget(block int) {
	for place := range k {
		if place[0] == block {
			delete(k, place)
		}
	}
}

// check fails the test unless all recorded pages are read back, and no page before the next one of its block is erased.
func (k record) check(t *testing.T, d *flash.Device) {
	t.Helper()
	for place, seed := range k {
		holds(t, d, place[0], place[1], seed)
	}
	g := d.Geometry()
	for block := range g.Blocks {
		for page := range g.Pages {
			if erased := d.State(block, page) == api.PageErased; erased != (page >= d.Next(block)) {
				t.Errorf("block %d, next page %d: page %d has the state %v", block, d.Next(block), page, d.State(block, page))
			}
		}
	}
}

// P4.5: pages that were programmed are read back until their block is erased, whatever fails or is interrupted in between.
func TestContentsStay(t *testing.T) {
	for run := range 40 {
		r := rand.New(rand.NewPCG(5, uint64(run)))
		d := made(t, geometries[run%len(geometries)], someFaults(r)...)
		g, kept := d.Geometry(), record{}
		for seed := range 150 {
			block := r.IntN(g.Blocks)
			if r.IntN(6) == 0 {
				d.Cut(d.Operations()+r.IntN(3), r.IntN(g.Size+api.SpareSize+1))
			}
			page := d.Next(block)
			if r.IntN(4) > 0 && page < g.Pages {
				if d.Program(block, page, filled(g.Size, seed), spared(seed)) == api.OK {
					kept[[2]int{block, page}] = seed
				}
			} else if d.Erase(block) != api.ErrWorn {
				kept.forget(block)
			}
			if !d.Powered() {
				d.Restart()
			}
			kept.check(t, d)
		}
	}
}

// lines describes each page of a device, one after the other.
func lines(d *flash.Device) []string {
	var l []string
	for block := range d.Geometry().Blocks {
		for page := range d.Geometry().Pages {
			data, spare, e := d.Read(block, page)
			l = append(l, fmt.Sprintf("%d %d %x %x", d.State(block, page), e, data, spare))
		}
	}
	return l
}

// P4.5: a power cut changes only the page, or the pages of the block, of the operation that it interrupts.
func TestCutChangesNothingElse(t *testing.T) {
	for run := range 40 {
		r := rand.New(rand.NewPCG(6, uint64(run)))
		g, faults := geometries[run%len(geometries)], someFaults(r)
		d, m := made(t, g, faults...), newModel(g, faults)
		for range 60 {
			step(r, d, m)
			d.Restart()
			m.restart()
		}
		for block := range g.Blocks {
			for _, erase := range []bool{true, false} {
				cutOnce(t, d.Copy(), block, erase, r.IntN(g.Size+api.SpareSize+1))
			}
		}
	}
}

// cutOnce interrupts an operation in a block, if there can be one, and looks at all pages.
func cutOnce(t *testing.T, d *flash.Device, block int, erase bool, n int) {
	t.Helper()
	g, next, before, wear := d.Geometry(), d.Next(block), lines(d), worn(d)
	gives(t, "Cut", d.Cut(d.Operations(), n), api.OK)
	if erase && d.Erase(block) == api.ErrPower {
		wear[block]++
	} else if !erase {
		d.Program(block, next%g.Pages, filled(g.Size, 2), spared(2))
	}
	interrupted := !d.Powered()
	d.Restart()
	for i, line := range lines(d) {
		may := interrupted && i/g.Pages == block && (erase || i%g.Pages == next)
		if line != before[i] && !may {
			t.Errorf("page %d of %d was %s and is %s", i%g.Pages, i/g.Pages, before[i], line)
		}
	}
	if got := worn(d); !slices.Equal(got, wear) {
		t.Errorf("the erase counts are %v, not %v", got, wear)
	}
}
