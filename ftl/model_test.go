package ftl_test

import (
	"bytes"
	"math/rand/v2"
	"slices"
	"testing"

	"capsule/api"
	"capsule/flash"
	"capsule/ftl"
)

// model says what a layer has to do, as far as the document leaves no choice.
type model struct {
	c        api.FTLConfig
	d        *flash.Device // that of the layer
	durable  [][]byte      // by sector; none: zero bytes
	waiting  [][]api.SectorWrite
	down     bool
	readOnly bool
	old      []trouble // by block: what had happened when the layer was made or restarted
	failed   int       // operations
	cut      int       // the operation that the pending cut interrupts, or -1
	seen     int       // operations that were looked at
	faults   []int
}

// trouble is what can be seen of failures of a block.
type trouble struct {
	state  api.PageState // of its last page that is not erased
	erases int
}

// modelOn returns the model of a layer that has been made on a device with these contents.
func modelOn(d *flash.Device, c api.FTLConfig, contents [][]byte, faults ...int) *model {
	m := &model{c: c, d: d, durable: slices.Clone(contents), cut: -1, faults: faults}
	m.start()
	return m
}

func (m *model) start() {
	m.waiting, m.down, m.readOnly, m.old = nil, false, false, troubles(m.d)
}

// troubles returns what can be seen of the failures of all blocks.
func troubles(d *flash.Device) []trouble {
	var l []trouble
	for block, erases := range d.Wear() {
		l = append(l, trouble{d.State(block, d.Next(block)-1), erases})
	}
	return l
}

// bad returns the number of blocks that have failed since the start.
func (m *model) bad() int {
	n := 0
	for block, now := range troubles(m.d) {
		if (now.state == api.PageFailed || now.state == api.PageUndefined) && now != m.old[block] {
			n++
		}
	}
	return n
}

// worn returns the number of blocks that cannot be erased any more.
func (m *model) worn() int {
	n := 0
	for _, erases := range m.d.Wear() {
		if erases == m.d.Geometry().Endurance {
			n++
		}
	}
	return n
}

// count counts the operations that have failed in the last call.
func (m *model) count() {
	for ; m.seen < m.d.Operations(); m.seen++ {
		if slices.Contains(m.faults, m.seen) && m.seen != m.cut {
			m.failed++
		}
	}
}

// exhausted reports whether a layer may be read-only.
func (m *model) exhausted() bool {
	return m.failed+m.worn() > m.c.Spare
}

// groupError returns the error of the arguments of Write.
func (m *model) groupError(l ...api.SectorWrite) api.Errno {
	if len(l) == 0 || len(l) > m.c.MaxGroup {
		return api.ErrArg
	}
	for i, w := range l {
		if len(w.Data) != m.d.Geometry().Size || slices.ContainsFunc(l[:i], func(v api.SectorWrite) bool { return v.Sector == w.Sector }) {
			return api.ErrArg
		}
	}
	if slices.ContainsFunc(l, func(w api.SectorWrite) bool { return w.Sector < 0 || w.Sector >= m.c.Sectors }) {
		return api.ErrRange
	}
	return m.state()
}

func (m *model) state() api.Errno {
	switch {
	case m.down:
		return api.ErrPower
	case m.readOnly || m.bad() > m.c.Spare:
		return api.ErrReadOnly
	}
	return api.OK
}

// changed returns contents after groups of changes.
func changed(contents [][]byte, groups ...[]api.SectorWrite) [][]byte {
	after := slices.Clone(contents)
	for _, l := range groups {
		for _, w := range l {
			after[w.Sector] = w.Data
		}
	}
	return after
}

// now returns the contents after all accepted groups.
func (m *model) now() [][]byte {
	return changed(m.durable, m.waiting...)
}

// pair is a layer and its model.
type pair struct {
	f      *ftl.FTL
	m      *model
	checks int
}

// pairOn returns a layer on a device with contents, and its model.
func pairOn(t *testing.T, d *flash.Device, c api.FTLConfig, contents [][]byte, faults ...int) *pair {
	t.Helper()
	f, e := ftl.New(d, c)
	if e != api.OK {
		t.Fatalf("New: %v", e)
	}
	p := &pair{f: f, m: modelOn(d, c, contents, faults...)}
	p.check(t)
	return p
}

// check fails the test unless the layer is in the state of the model.
func (p *pair) check(t *testing.T) {
	t.Helper()
	m := p.m
	if p.f.Sectors() != m.c.Sectors || p.f.Dirty() != len(m.waiting) || p.f.Device() != m.d {
		t.Errorf("Sectors %d, Dirty %d, not %d, %d", p.f.Sectors(), p.f.Dirty(), m.c.Sectors, len(m.waiting))
	}
	most := m.c.Spare - m.bad()
	if m.down {
		most = m.c.Spare // the block whose erasing was interrupted looks as if that had failed
	}
	if n := p.f.Spare(); n > max(0, most) || n < max(0, m.c.Spare-m.bad()-m.worn()) {
		t.Errorf("Spare %d; %d of %d blocks have failed, and %d are worn", n, m.bad(), m.c.Spare, m.worn())
	}
	erases := []int{}
	for _, n := range m.d.Wear() {
		erases = append(erases, n)
	}
	if least, most := p.f.Wear(); least != slices.Min(erases) || most != slices.Max(erases) {
		t.Errorf("Wear %d, %d of %v", least, most, erases)
	}
	for sector, want := range m.now() {
		if m.down {
			cannotRead(t, p.f, sector, api.ErrPower)
		} else {
			holds(t, p.f, sector, want)
		}
	}
	p.checks++
	if !m.down && p.checks%8 == 0 { // not always: it takes some time
		lasts(t, p.f, m.durable)
	}
}

// copied returns a copy of a layer and of its model.
func (p *pair) copied() *pair {
	m := *p.m
	f := p.f.Copy()
	m.d = f.Device()
	return &pair{f: f, m: &m}
}

// settle compares the outcome of a call that changes something with what is allowed, and takes it over. Groups are those that the call has to make durable, in order, and accepted is the group that waits then, if there is one.
func (p *pair) settle(t *testing.T, name string, e api.Errno, groups [][]api.SectorWrite, accepted ...[]api.SectorWrite) {
	t.Helper()
	m := p.m
	m.count()
	switch e {
	case api.OK:
		m.durable = changed(m.durable, groups...)
		m.waiting = append(slices.Clone(m.waiting[min(len(groups), len(m.waiting)):]), accepted...)
	case api.ErrReadOnly:
		if !m.exhausted() {
			t.Fatalf("%s: %v, but only %d operations have failed, and %d blocks are worn", name, e, m.failed, m.worn())
		}
		m.readOnly = true
		if n := len(m.waiting) - p.f.Dirty(); n > 0 && n <= len(groups) {
			m.durable = changed(m.durable, groups[:n]...)
			m.waiting = m.waiting[n:]
		}
	case api.ErrPower:
		if m.d.Powered() || m.cut < 0 {
			t.Fatalf("%s: %v, but the power is on", name, e)
		}
		m.down, m.waiting = true, nil
		p.check(t)
		p.restart(t, groups...)
	default:
		t.Fatalf("%s: %v", name, e)
	}
	p.check(t)
}

// restart restarts a layer and finds out which groups of an interrupted call are there.
func (p *pair) restart(t *testing.T, groups ...[]api.SectorWrite) {
	t.Helper()
	m := p.m
	if e := p.f.Restart(); e != api.OK {
		t.Fatalf("Restart: %v", e)
	}
	m.start()
	m.cut = -1
	after := make([][]byte, m.c.Sectors)
	for sector := range after {
		after[sector], _ = p.f.Read(sector)
	}
	for n := range len(groups) + 1 {
		contents := changed(m.durable, groups[:n]...)
		if slices.EqualFunc(contents, after, func(a, b []byte) bool { return bytes.Equal(blank(a, len(b)), b) }) {
			m.durable = contents
			return
		}
	}
	t.Errorf("after Restart: %x, not %x and some of %v", after, m.durable, groups)
}

// due returns the groups that become durable when another one is accepted, and whether that one waits.
func (m *model) due(l []api.SectorWrite) (groups [][]api.SectorWrite, accepted [][]api.SectorWrite) {
	switch {
	case m.c.Cache == 0:
		return [][]api.SectorWrite{l}, nil
	case len(m.waiting) == m.c.Cache:
		return m.waiting[:1], [][]api.SectorWrite{l}
	}
	return nil, [][]api.SectorWrite{l}
}

// refused compares the error of a call that changes nothing but, perhaps, makes the layer read-only.
func (p *pair) refused(t *testing.T, name string, e, want api.Errno) {
	t.Helper()
	gives(t, name, e, want)
	p.m.readOnly = p.m.readOnly || want == api.ErrReadOnly
	p.check(t)
}

func (p *pair) write(t *testing.T, l ...api.SectorWrite) api.Errno {
	t.Helper()
	want := p.m.groupError(l...)
	groups, accepted := p.m.due(l)
	e := p.f.Write(l...)
	if want != api.OK {
		p.refused(t, "Write", e, want)
		return e
	}
	p.settle(t, "Write", e, groups, accepted...)
	return e
}

func (p *pair) trim(t *testing.T, sector, n int) api.Errno {
	t.Helper()
	want := p.m.state()
	if sector < 0 || sector >= p.m.c.Sectors || n < 0 || n > p.m.c.Sectors-sector {
		want = api.ErrRange
	}
	var l []api.SectorWrite
	for i := range n {
		l = append(l, api.SectorWrite{Sector: sector + i})
	}
	groups, accepted := p.m.due(l)
	if n == 0 {
		groups, accepted = nil, nil
	}
	e := p.f.Trim(sector, n)
	if want != api.OK {
		p.refused(t, "Trim", e, want)
		return e
	}
	p.settle(t, "Trim", e, groups, accepted...)
	return e
}

func (p *pair) flush(t *testing.T) api.Errno {
	t.Helper()
	want, groups := p.m.state(), p.m.waiting
	e := p.f.Flush()
	if want != api.OK {
		p.refused(t, "Flush", e, want)
		return e
	}
	p.settle(t, "Flush", e, groups)
	return e
}

// cutAfter makes the power be cut some operations later.
func (p *pair) cutAfter(t *testing.T, operations, bytes int) {
	t.Helper()
	p.m.cut = p.m.d.Operations() + operations
	gives(t, "Cut", p.m.d.Cut(p.m.cut, bytes), api.OK)
}

// someGroup returns a group of changes that are mostly valid.
func (m *model) someGroup(r *rand.Rand) []api.SectorWrite {
	var l []api.SectorWrite
	size := m.d.Geometry().Size
	for _, sector := range r.Perm(m.c.Sectors)[:1+r.IntN(min(m.c.MaxGroup, m.c.Sectors))] {
		l = append(l, api.SectorWrite{Sector: sector, Data: filled(size, r.IntN(100000))})
	}
	switch r.IntN(80) {
	case 0:
		l[len(l)-1].Sector = m.c.Sectors
	case 1:
		l = append(l, l[0])
	case 2:
		l[0].Data = filled(size-1, 1)
	case 3:
		l = nil
	}
	return l
}

// step makes a call with random arguments.
func (p *pair) step(t *testing.T, r *rand.Rand) api.Errno {
	t.Helper()
	switch n := r.IntN(40); {
	case n < 1:
		return p.trim(t, 0, p.m.c.Sectors)
	case n < 5:
		sector := r.IntN(p.m.c.Sectors + 1)
		return p.trim(t, sector, r.IntN(p.m.c.Sectors-sector+1+r.IntN(2)))
	case n < 7:
		return p.flush(t)
	case n < 8:
		p.restart(t)
		p.check(t)
		return api.OK
	}
	return p.write(t, p.m.someGroup(r)...)
}

// someConfig returns a configuration and the smallest geometry with some pages that it fits.
func someConfig(r *rand.Rand) (api.Geometry, api.FTLConfig) {
	g := api.Geometry{Pages: 2 + r.IntN(5), Size: 12 + r.IntN(20), Endurance: 1 << 20}
	c := api.FTLConfig{Sectors: 1 + r.IntN(40), Spare: r.IntN(6), Cache: r.IntN(4), MaxGroup: 1 + r.IntN(g.Pages)}
	return fitted(g, c), c
}

// fitted returns a geometry with as few blocks as a configuration needs.
func fitted(g api.Geometry, c api.FTLConfig) api.Geometry {
	g.Blocks = 2
	g.Blocks = c.Spare + ftl.Reserve(g, c.Sectors) + (c.Sectors+g.Pages-1)/g.Pages
	return g
}

// P12.2 to P12.6: long sequences of calls on devices that are as small as possible, compared with the model, with operations that fail, worn blocks and power cuts; at times with a copy, which does not change the layer.
func TestModel(t *testing.T) {
	t.Parallel()
	outcomes := map[api.Errno]int{}
	for run := range 200 {
		r := rand.New(rand.NewPCG(12, uint64(run)))
		g, c := someConfig(r)
		if r.IntN(3) == 0 {
			g.Endurance = 3 + r.IntN(20)
		}
		var faults []int
		for range r.IntN(2) * r.IntN(c.Spare+3) {
			faults = append(faults, r.IntN(1500))
		}
		p := pairOn(t, device(t, g, faults...), c, make([][]byte, c.Sectors), faults...)
		often := 2 + r.IntN(30)
		for range 250 {
			if r.IntN(often) == 0 {
				p.cutAfter(t, r.IntN(12), r.IntN(g.Size+api.SpareSize+1))
			}
			if r.IntN(50) == 0 {
				q := p.copied()
				for range 5 {
					q.step(t, r)
				}
				p.check(t)
			}
			outcomes[p.step(t, r)]++
		}
		if t.Failed() {
			t.Fatalf("run %d: %+v, %+v, faults %v", run, g, c, faults)
		}
	}
	for _, e := range []api.Errno{api.OK, api.ErrArg, api.ErrRange, api.ErrPower, api.ErrReadOnly} {
		if outcomes[e] < 300 {
			t.Errorf("the calls have given %v only %d times", e, outcomes[e])
		}
	}
}
