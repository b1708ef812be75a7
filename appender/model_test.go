package appender_test

import (
	"bytes"
	"fmt"
	"math/rand/v2"
	"slices"
	"testing"

	"capsule/api"
	"capsule/appender"
	"capsule/flash"
	"capsule/journal"
	"capsule/spare"
)

// cell is a block of the model.
type cell struct {
	state            api.BlockState
	erases           int
	journal, suspect bool
	newest           uint64
}

// model is an appender as the chapter words it, on a device of its own.
type model struct {
	d          *flash.Device
	at         []int // the page of each sector, or -1
	blocks     []cell
	next, last uint64
	open       map[api.SpareKind]int // for SpareData and for SpareDelta: a block, or -1
	down       bool
}

// modelOf returns the model that starts with what was found.
func modelOf(d *flash.Device, sectors int, f api.Found) *model {
	m := &model{d: d, at: slices.Repeat([]int{-1}, sectors), next: f.Next, last: f.Last, open: map[api.SpareKind]int{api.SpareData: -1, api.SpareDelta: -1}}
	for _, x := range f.Entries {
		m.at[x.Sector] = x.Page
	}
	for block := range d.Geometry().Blocks {
		b := cell{state: api.BlockFree, erases: d.Erases(block), journal: slices.Contains(f.Journal, block)}
		if b.journal || slices.Contains(f.Dirty, block) {
			b.state = api.BlockFull
		}
		m.blocks = append(m.blocks, b)
	}
	return m
}

func (m *model) count(is func(cell) bool) int {
	n := 0
	for _, b := range m.blocks {
		if is(b) {
			n++
		}
	}
	return n
}

// shut closes the open block for pages of a kind.
func (m *model) shut(k api.SpareKind) {
	if block := m.open[k]; block >= 0 {
		m.blocks[block].state = api.BlockFull
	}
	m.open[k] = -1
}

// take opens the free block with the fewest erases for pages of a kind.
func (m *model) take(k api.SpareKind) bool {
	best := -1
	for block, b := range m.blocks {
		if b.state == api.BlockFree && (best < 0 || b.erases < m.blocks[best].erases) {
			best = block
		}
	}
	if best < 0 {
		return false
	}
	m.blocks[best].state = api.BlockOpen
	m.blocks[best].journal = k == api.SpareDelta
	m.open[k] = best
	return true
}

// write writes a page to the open block for pages of a kind.
func (m *model) write(k api.SpareKind, s api.Spare, data []byte) (int, api.Errno) {
	pages := m.d.Geometry().Pages
	rest, e := spare.Encode(s, data)
	if e != api.OK {
		return 0, e
	}
	for {
		if block := m.open[k]; block < 0 || m.d.Next(block) == pages {
			m.shut(k)
			if !m.take(k) {
				return 0, api.ErrFull
			}
		}
		block := m.open[k]
		number := m.d.Next(block)
		switch m.d.Program(block, number, data, rest) {
		case api.OK:
			m.next++
			if k == api.SpareData {
				m.blocks[block].newest = s.Sequence
			}
			return block*pages + number, api.OK
		case api.ErrPower:
			m.down = true
			return 0, api.ErrPower
		}
		m.blocks[block].suspect = true
		m.shut(k)
	}
}

// record writes a record.
func (m *model) record(k api.SpareKind, l []api.MapEntry) api.Errno {
	capacity := (m.d.Geometry().Size - 4) / 8
	parts := slices.Collect(slices.Chunk(l, capacity))
	if len(parts) == 0 {
		parts = [][]api.MapEntry{nil}
	}
	prev := m.last
	for i, part := range parts {
		data, e := journal.Encode(m.d.Geometry().Size, part...)
		if e != api.OK {
			return e
		}
		s := api.Spare{Kind: k, Sequence: m.next, Prev: prev, Index: i, Length: len(parts)}
		if _, e := m.write(api.SpareDelta, s, data); e != api.OK {
			return e
		}
	}
	m.last = m.next - 1
	return api.OK
}

// group writes a group, and applies its entries.
func (m *model) group(l []api.SectorWrite) api.Errno {
	var entries []api.MapEntry
	for _, w := range l {
		switch {
		case len(w.Data) > 0:
			page, e := m.write(api.SpareData, api.Spare{Kind: api.SpareData, Sector: w.Sector, Sequence: m.next, Length: 1}, w.Data)
			if e != api.OK {
				return e
			}
			entries = append(entries, entry{Sector: w.Sector, Page: page})
		case m.at[w.Sector] >= 0:
			entries = append(entries, entry{Sector: w.Sector, Page: -1})
		}
	}
	if len(entries) > 0 {
		if e := m.record(api.SpareDelta, entries); e != api.OK {
			return e
		}
	}
	for _, x := range entries {
		m.at[x.Sector] = x.Page
	}
	return api.OK
}

func (m *model) erase(block int) api.Errno {
	b := &m.blocks[block]
	if b.suspect {
		*b = cell{state: api.BlockBad}
		return api.OK
	}
	switch m.d.Erase(block) {
	case api.OK:
		*b = cell{state: api.BlockFree, erases: b.erases + 1}
	case api.ErrPower:
		m.down = true
		return api.ErrPower
	default:
		*b = cell{state: api.BlockBad}
	}
	return api.OK
}

func (m *model) append(l []api.SectorWrite) api.Errno {
	seen := map[int]bool{}
	e := api.OK
	for _, w := range l {
		if n := len(w.Data); seen[w.Sector] || n != 0 && n != m.d.Geometry().Size {
			return api.ErrArg
		}
		seen[w.Sector] = true
		if w.Sector < 0 || w.Sector >= len(m.at) {
			e = api.ErrRange
		}
	}
	switch {
	case len(l) == 0:
		return api.ErrArg
	case e != api.OK:
		return e
	case m.down:
		return api.ErrPower
	}
	return m.group(l)
}

func (m *model) move(block int) api.Errno {
	switch {
	case block < 0 || block >= len(m.blocks):
		return api.ErrRange
	case m.down:
		return api.ErrPower
	case m.blocks[block].state != api.BlockFull || m.blocks[block].journal:
		return api.ErrState
	}
	var l []api.SectorWrite
	for number := range m.d.Geometry().Pages {
		if sector := slices.Index(m.at, block*m.d.Geometry().Pages+number); sector >= 0 {
			data, _, e := m.d.Read(block, number)
			if e != api.OK {
				return e
			}
			l = append(l, api.SectorWrite{Sector: sector, Data: data})
		}
	}
	if e := m.group(l); e != api.OK {
		return e
	}
	return m.erase(block)
}

func (m *model) checkpoint() api.Errno {
	if m.down {
		return api.ErrPower
	}
	m.shut(api.SpareDelta)
	old := slices.Clone(m.blocks)
	if e := m.record(api.SpareCheckpoint, m.entries()); e != api.OK {
		return e
	}
	for block, b := range old {
		if b.journal {
			m.blocks[block].journal = false
		}
	}
	for block, b := range old {
		if b.journal {
			if e := m.erase(block); e != api.OK {
				return e
			}
		}
	}
	return api.OK
}

func (m *model) entries() []api.MapEntry {
	var l []api.MapEntry
	for sector, page := range m.at {
		if page >= 0 {
			l = append(l, entry{Sector: sector, Page: page})
		}
	}
	return l
}

func (m *model) candidates() []api.Candidate {
	var l []api.Candidate
	pages := m.d.Geometry().Pages
	for block, b := range m.blocks {
		if b.state == api.BlockFull && !b.journal {
			valid := 0
			for _, page := range m.at {
				if page >= 0 && page/pages == block {
					valid++
				}
			}
			l = append(l, api.Candidate{Block: block, Valid: valid, Pages: pages, Age: int(min(m.next-b.newest, 1<<40))})
		}
	}
	return l
}

func (m *model) read(sector int) ([]byte, api.Errno) {
	g := m.d.Geometry()
	switch {
	case sector < 0 || sector >= len(m.at):
		return nil, api.ErrRange
	case m.down:
		return nil, api.ErrPower
	case m.at[sector] < 0:
		return make([]byte, g.Size), api.OK
	}
	data, _, e := m.d.Read(m.at[sector]/g.Pages, m.at[sector]%g.Pages)
	return data, e
}

// is fails the test unless the appender shows what the model has, on a device in the same state.
func (m *model) is(t *testing.T, a *appender.Appender) {
	t.Helper()
	shows(t, a, numbers{
		m.next,
		m.count(func(b cell) bool { return b.state == api.BlockFree }),
		m.count(func(b cell) bool { return b.journal }),
		m.count(func(b cell) bool { return b.suspect || b.state == api.BlockBad }),
		m.d.Operations(),
	})
	assigns(t, a, m.entries()...)
	if l := a.Candidates(); !slices.Equal(l, m.candidates()) {
		t.Errorf("Candidates: %v, not %v", l, m.candidates())
	}
	for sector := -1; sector <= len(m.at); sector++ {
		want, e := m.read(sector)
		if data, f := a.Read(sector); f != e || !bytes.Equal(data, want) {
			t.Errorf("Read(%d): %x, %v, not %x, %v", sector, data, f, want, e)
		}
	}
	same(t, a.Device(), m.d)
}

// same fails the test unless two devices have the same contents.
func same(t *testing.T, got, want *flash.Device) {
	t.Helper()
	if got.Powered() != want.Powered() || got.Geometry() != want.Geometry() {
		t.Fatalf("devices %v and %v, powered %t and %t", got.Geometry(), want.Geometry(), got.Powered(), want.Powered())
	}
	if !got.Powered() {
		got, want = got.Copy(), want.Copy()
		got.Restart()
		want.Restart()
	}
	for block, erases := range want.Wear() {
		if n := got.Erases(block); n != erases {
			t.Errorf("block %d: %d erases, not %d", block, n, erases)
		}
		for number := range want.Geometry().Pages {
			if p, q := page(t, got, block, number), page(t, want, block, number); p != q {
				t.Errorf("block %d, page %d: %s, not %s", block, number, p, q)
			}
		}
	}
}

// pair is an appender with its model, and the contents that its sectors have to have.
type pair struct {
	a        *appender.Appender
	m        *model
	contents [][]byte
}

// pairOn returns an appender on a device, and a model of it on a copy of the device.
func pairOn(t *testing.T, d *flash.Device, sectors int, f api.Found) *pair {
	t.Helper()
	return &pair{started(t, d, sectors, f), modelOf(d.Copy(), sectors, f), make([][]byte, sectors)}
}

// check fails the test unless a call has had the same outcome on both, and, if it was successful, unless the device describes the contents.
func (p *pair) check(t *testing.T, call string, got, want api.Errno) {
	t.Helper()
	if got != want {
		t.Errorf("%s: %v, not %v", call, got, want)
	}
	p.m.is(t, p.a)
	if got == api.OK {
		consistent(t, p.a, p.contents)
	}
	if t.Failed() {
		t.Fatalf("after %s", call)
	}
}

func (p *pair) append(t *testing.T, l ...api.SectorWrite) api.Errno {
	t.Helper()
	e := p.a.Append(l...)
	if e == api.OK {
		p.contents = changed(p.contents, l...)
	}
	p.check(t, fmt.Sprint("Append ", l), e, p.m.append(l))
	return e
}

func (p *pair) move(t *testing.T, block int) api.Errno {
	t.Helper()
	e := p.a.Move(block)
	p.check(t, fmt.Sprint("Move ", block), e, p.m.move(block))
	return e
}

func (p *pair) checkpoint(t *testing.T) api.Errno {
	t.Helper()
	e := p.a.Checkpoint()
	p.check(t, "Checkpoint", e, p.m.checkpoint())
	return e
}

// cut makes a power cut pending on both devices.
func (p *pair) cut(t *testing.T, operation, bytes int) {
	t.Helper()
	gives(t, "Cut", p.a.Device().Cut(operation, bytes), api.OK)
	gives(t, "Cut", p.m.d.Cut(operation, bytes), api.OK)
}

// restart restarts the device of an appender that is down, and starts another one with what is found. The contents are those from before the call that was interrupted, or those after it.
func (p *pair) restart(t *testing.T, after [][]byte) *pair {
	t.Helper()
	d := p.a.Device()
	gives(t, "Restart", d.Restart(), api.OK)
	f := scan(t, d, len(p.contents))
	q := pairOn(t, d, len(p.contents), f)
	q.contents = p.contents
	for sector, want := range after {
		if b, e := q.a.Read(sector); e != api.OK || !bytes.Equal(b, blank(p.contents[sector], len(b))) {
			q.contents = after
			holds(t, q.a, sector, blank(want, len(b)))
		}
	}
	consistent(t, q.a, q.contents)
	q.m.is(t, q.a)
	return q
}

// blank returns the contents of a sector, which are zero bytes if it was not written.
func blank(b []byte, size int) []byte {
	if len(b) == 0 {
		return make([]byte, size)
	}
	return b
}

// someGroup returns a group of changes that are mostly valid.
func someGroup(r *rand.Rand, size, sectors int) []api.SectorWrite {
	var l []api.SectorWrite
	order := r.Perm(sectors)
	for i := range 1 + r.IntN(min(sectors, 4)) {
		w := api.SectorWrite{Sector: order[i]}
		if r.IntN(4) > 0 {
			w.Data = filled(size, r.IntN(1000))
		}
		l = append(l, w)
	}
	switch r.IntN(40) {
	case 0:
		l[len(l)-1].Sector = sectors
	case 1:
		l = append(l, l[0])
	case 2:
		l[0].Data = filled(size-1, 1)
	case 3:
		l = nil
	}
	return l
}

// someGeometry returns a geometry of a small device.
func someGeometry(r *rand.Rand) api.Geometry {
	return api.Geometry{Blocks: 3 + r.IntN(8), Pages: 2 + r.IntN(4), Size: 12 + r.IntN(20), Endurance: 2 + r.IntN(40)}
}

// someFaults returns operations that fail, often none.
func someFaults(r *rand.Rand) []int {
	var faults []int
	for range r.IntN(3) * r.IntN(8) {
		faults = append(faults, r.IntN(300))
	}
	return faults
}

// step makes a call with random arguments, and returns its error and the contents that it would lead to.
func (p *pair) step(t *testing.T, r *rand.Rand) (api.Errno, [][]byte) {
	t.Helper()
	d := p.a.Device()
	switch n := r.IntN(20); {
	case n < 3:
		return p.checkpoint(t), p.contents
	case n < 7:
		return p.move(t, r.IntN(d.Geometry().Blocks+2)-1), p.contents
	case n < 11:
		if l := p.a.Candidates(); len(l) > 0 {
			return p.move(t, l[r.IntN(len(l))].Block), p.contents
		}
		return api.OK, nil
	}
	l := someGroup(r, d.Geometry().Size, len(p.contents))
	e := p.append(t, l...)
	if e != api.OK && e != api.ErrPower {
		return e, nil
	}
	return e, changed(p.contents, l...)
}

// P10.1 to P10.5: long sequences of calls, compared with the model, with operations that fail and power cuts; after each cut another appender goes on with what is found.
func TestModel(t *testing.T) {
	outcomes := map[api.Errno]int{}
	for run := range 300 {
		r := rand.New(rand.NewPCG(10, uint64(run)))
		g := someGeometry(r)
		p := pairOn(t, device(t, g, someFaults(r)...), 1+r.IntN(g.Blocks*g.Pages/2), api.Found{Next: 1 + r.Uint64N(3)*r.Uint64N(1<<40)})
		for range 100 {
			if r.IntN(30) == 0 {
				p.cut(t, p.a.Device().Operations()+r.IntN(12), r.IntN(g.Size+api.SpareSize+1))
			}
			if r.IntN(30) == 0 {
				p.a = p.a.Copy()
				p.m.is(t, p.a)
			}
			e, after := p.step(t, r)
			outcomes[e]++
			if e == api.ErrPower {
				p = p.restart(t, after)
			}
		}
		if t.Failed() {
			t.Fatalf("run %d", run)
		}
	}
	for _, e := range []api.Errno{api.OK, api.ErrArg, api.ErrRange, api.ErrPower, api.ErrState, api.ErrFull} {
		if outcomes[e] < 100 {
			t.Errorf("the calls have given %v only %d times", e, outcomes[e])
		}
	}
}
