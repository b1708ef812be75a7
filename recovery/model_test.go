package recovery_test

import (
	"bytes"
	"encoding/binary"
	"hash/crc32"
	"math/rand/v2"
	"slices"
	"testing"

	"capsule/api"
	"capsule/flash"
	"capsule/recovery"
	"capsule/spare"
)

// leaf is a page of the model: where it is, what it is, and the entries of a page of the journal.
type leaf struct {
	number int
	s      api.Spare
	l      []entry
}

// model is what the chapter's definitions see on a device whose power is on.
type model struct {
	g       api.Geometry
	intact  map[int]leaf // by number
	journal []leaf       // in order
	used    []int        // the pages that are not erased, in order
}

func modelOf(d *flash.Device) *model {
	m := &model{g: d.Geometry(), intact: map[int]leaf{}}
	for number := range m.g.Blocks * m.g.Pages {
		block, place := number/m.g.Pages, number%m.g.Pages
		if d.State(block, place) == api.PageErased {
			continue
		}
		m.used = append(m.used, number)
		data, rest, e := d.Read(block, place)
		if e != api.OK {
			continue
		}
		s, valid := described(rest, data)
		if !valid {
			continue
		}
		m.intact[number] = leaf{number, s, nil}
		if l, valid := listed(data); valid && s.Kind != api.SpareData {
			m.journal = append(m.journal, leaf{number, s, l})
		}
	}
	return m
}

// described returns the description of a page, and whether it is intact.
func described(rest, data []byte) (api.Spare, bool) {
	u32 := func(at int) int { return int(binary.LittleEndian.Uint32(rest[at:])) }
	s := api.Spare{Kind: api.SpareKind(rest[4]), Sequence: binary.LittleEndian.Uint64(rest[8:]), Prev: binary.LittleEndian.Uint64(rest[16:]), Sector: u32(24), Index: u32(28), Length: u32(32)}
	table := crc32.MakeTable(crc32.Castagnoli)
	sum := crc32.Update(crc32.Checksum(data, table), table, rest[:60])
	if int(sum) != u32(60) || string(rest[:4]) != "CFTL" || !bytes.Equal(rest[5:8], make([]byte, 3)) || !bytes.Equal(rest[36:60], make([]byte, 24)) {
		return api.Spare{}, false
	}
	if !spare.Valid(s) {
		return api.Spare{}, false
	}
	return s, true
}

// listed returns the entries in the data of a page, and whether they are the data of a page with entries.
func listed(data []byte) ([]entry, bool) {
	if len(data) < 12 {
		return nil, false
	}
	u32 := func(at int) int { return int(binary.LittleEndian.Uint32(data[at:])) }
	n := u32(0)
	if n > (len(data)-4)/8 || slices.ContainsFunc(data[4+8*n:], func(b byte) bool { return b != 0 }) {
		return nil, false
	}
	var l []entry
	for i := range n {
		x := entry{Sector: u32(4 + 8*i), Page: u32(8+8*i) - 1}
		if x.Sector > 1<<32-2 {
			return nil, false
		}
		l = append(l, x)
	}
	return l, true
}

// complete returns the pages of the record that a page is of, if they are all there.
func (m *model) complete(of leaf) ([]leaf, bool) {
	var record []leaf
	for index := range of.s.Length {
		i := slices.IndexFunc(m.journal, func(p leaf) bool {
			s := p.s
			s.Sequence, s.Index = s.Sequence-uint64(s.Index), 0
			want := of.s
			want.Sequence, want.Index = want.Sequence-uint64(want.Index), 0
			return s == want && p.s.Index == index
		})
		if i < 0 {
			return nil, false
		}
		record = append(record, m.journal[i])
	}
	return record, true
}

// best returns the complete record with the highest first number of a kind, and with this Prev unless it is a checkpoint.
func (m *model) best(k api.SpareKind, prev uint64) []leaf {
	var best []leaf
	for _, p := range m.journal {
		if p.s.Kind != k || k == api.SpareDelta && p.s.Prev != prev {
			continue
		}
		if record, ok := m.complete(p); ok && (best == nil || record[0].s.Sequence > best[0].s.Sequence) {
			best = record
		}
	}
	return best
}

// chain returns the pages of the chain in the order in which they count.
func (m *model) chain() (pages []leaf, last uint64) {
	record := m.best(api.SpareCheckpoint, 0)
	if record == nil {
		record = m.best(api.SpareDelta, 0)
	}
	for record != nil {
		pages = append(pages, record...)
		last = record[len(record)-1].s.Sequence
		record = m.best(api.SpareDelta, last)
	}
	return pages, last
}

// found is what is found on the device, or ErrFormat.
func (m *model) found(sectors int) (api.Found, api.Errno) {
	f := api.Found{Next: 1}
	for _, p := range m.intact {
		if p.s.Sequence>>63 != 0 {
			return api.Found{}, api.ErrFormat
		}
		f.Next = max(f.Next, p.s.Sequence+1)
	}
	pages, last := m.chain()
	f.Last = last
	pageOf := make([]int, sectors)
	for i := range pageOf {
		pageOf[i] = -1
	}
	for _, p := range pages {
		for _, x := range p.l {
			if x.Sector >= sectors || x.Page >= m.g.Blocks*m.g.Pages {
				return api.Found{}, api.ErrFormat
			}
			if other := slices.Index(pageOf, x.Page); x.Page >= 0 && other >= 0 && other != x.Sector {
				return api.Found{}, api.ErrFormat
			}
			pageOf[x.Sector] = x.Page
		}
		f.Journal = append(f.Journal, p.number/m.g.Pages)
	}
	for sector, page := range pageOf {
		if page >= 0 {
			if p := m.intact[page]; p.s.Kind != api.SpareData || p.s.Sector != sector {
				return api.Found{}, api.ErrFormat
			}
			f.Entries = append(f.Entries, entry{Sector: sector, Page: page})
		}
	}
	slices.Sort(f.Journal)
	f.Journal = slices.Compact(f.Journal)
	for _, number := range m.used {
		if block := number / m.g.Pages; !slices.Contains(f.Journal, block) && !slices.Contains(f.Dirty, block) {
			f.Dirty = append(f.Dirty, block)
		}
	}
	return f, api.OK
}

// agrees fails the test unless Scan, Pages and Count agree with the model. It returns what was found.
func agrees(t *testing.T, d *flash.Device, sectors int) (api.Found, api.Errno) {
	t.Helper()
	m := modelOf(d)
	want, e := m.found(sectors)
	f, got := recovery.Scan(d, sectors)
	if got != e || !equal(f, want) {
		t.Errorf("Scan(%d): %+v, %v, not %+v, %v", sectors, f, got, want, e)
	}
	var l []seen
	data := 0
	for _, number := range m.used {
		if p, ok := m.intact[number]; ok {
			l = append(l, seen{number, p.s})
			if p.s.Kind == api.SpareData {
				data++
			}
		}
	}
	if got := collected(recovery.Pages(d)); !slices.Equal(got, l) {
		t.Errorf("Pages: %v, not %v", got, l)
	}
	counts(t, d, data, len(m.journal), len(m.used)-data-len(m.journal))
	return want, e
}

// plan is what the pages of a random device are to contain: the sector of each page of data, or -1.
type plan []int

// entries returns entries that mostly are right.
func (p plan) entries(r *rand.Rand, capacity int) []entry {
	var l []entry
	for range r.IntN(capacity + 1) {
		x := entry{Sector: r.IntN(4), Page: -1}
		for range 20 {
			if page := r.IntN(len(p)); p[page] == x.Sector {
				x.Page = page
				break
			}
		}
		switch r.IntN(60) {
		case 0:
			x.Page = r.IntN(len(p) + 2)
		case 1:
			x.Sector = r.IntN(6)
		}
		l = append(l, x)
	}
	return l
}

// journalPage returns the description of a page of a record. All numbers are low, so that records are often complete, and often follow each other.
func journalPage(r *rand.Rand) api.Spare {
	s := api.Spare{Kind: api.SpareDelta, Length: 1 + r.IntN(6)/5}
	if r.IntN(8) == 0 {
		s.Kind = api.SpareCheckpoint
	}
	s.Index = r.IntN(s.Length)
	s.Prev = r.Uint64N(1 + r.Uint64N(6))
	s.Sequence = s.Prev + 1 + r.Uint64N(3) + uint64(s.Index)
	if r.IntN(300) == 0 {
		s.Sequence = 1<<63 - 1 + r.Uint64N(3)
	}
	return s
}

// random returns a device with random pages, of which some are not intact.
func random(t *testing.T, r *rand.Rand) *flash.Device {
	t.Helper()
	g := api.Geometry{Blocks: 2 + r.IntN(5), Pages: 2 + r.IntN(5), Size: []int{11, 12, 20, 20, 28}[r.IntN(5)], Endurance: 3}
	var faults []int
	for range r.IntN(3) {
		faults = append(faults, r.IntN(40))
	}
	d := device(t, g, faults...)
	p := make(plan, g.Blocks*g.Pages)
	for i := range p {
		p[i] = r.IntN(6) - 2
		if p[i] < 0 {
			p[i] = -1
		}
	}
	for block := range g.Blocks {
		for place := range r.IntN(g.Pages+3) - 1 {
			if place < g.Pages {
				p.program(t, r, d, block, place)
			}
		}
	}
	if r.IntN(10) == 0 {
		d.Erase(r.IntN(g.Blocks))
	}
	return d
}

// program programs a page of a random device.
func (p plan) program(t *testing.T, r *rand.Rand, d *flash.Device, block, place int) {
	t.Helper()
	g := d.Geometry()
	s := api.Spare{Kind: api.SpareData, Sector: max(0, p[block*g.Pages+place]), Sequence: 1 + r.Uint64N(20), Length: 1}
	data := filled(g.Size, r.IntN(1000))
	if p[block*g.Pages+place] < 0 {
		s = journalPage(r)
		if g.Size >= 12 && r.IntN(30) > 0 {
			data = entriesOf(g.Size, p.entries(r, (g.Size-4)/8))
		}
	}
	rest, e := spare.Encode(s, data)
	gives(t, "Encode", e, api.OK)
	switch r.IntN(60) {
	case 0:
		rest[r.IntN(len(rest))] ^= 1 << r.IntN(8)
	case 1:
		data[r.IntN(len(data))] ^= 1 << r.IntN(8)
	case 2:
		gives(t, "Cut", d.Cut(d.Operations(), r.IntN(g.Size+api.SpareSize+1)), api.OK)
	case 3:
		rest = filled(len(rest), r.IntN(1000))
	}
	d.Program(block, place, data, rest)
	d.Restart()
}

// entriesOf returns the data of a page with these entries.
func entriesOf(size int, l []entry) []byte {
	b := binary.LittleEndian.AppendUint32(nil, uint32(len(l)))
	for _, x := range l {
		b = binary.LittleEndian.AppendUint32(b, uint32(x.Sector))
		b = binary.LittleEndian.AppendUint32(b, uint32(x.Page+1))
	}
	return append(b, make([]byte, size-len(b))...)
}

// P11.1, P11.2: random devices, compared with the model; they stay as they are.
func TestModel(t *testing.T) {
	var accepted, chained, several, assigned, rejected int
	for run := range 20000 {
		r := rand.New(rand.NewPCG(11, uint64(run)))
		d := random(t, r)
		before := look(t, d)
		f, e := agrees(t, d, 3+r.IntN(4))
		if after := look(t, d); after != before {
			t.Errorf("the device was changed:\n%s\nbefore:\n%s", after, before)
		}
		switch {
		case e != api.OK:
			rejected++
		default:
			accepted++
			chained += min(1, len(f.Journal))
			several += min(1, len(f.Journal)/2)
			assigned += min(1, len(f.Entries))
		}
		if t.Failed() {
			t.Fatalf("run %d", run)
		}
	}
	if accepted < 2000 || chained < 2000 || several < 500 || assigned < 500 || rejected < 1000 {
		t.Errorf("%d were accepted, %d of them with a chain, %d in several blocks, %d with assignments; %d were rejected", accepted, chained, several, assigned, rejected)
	}
}
