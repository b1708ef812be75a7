package mapping_test

import (
	"math"
	"math/rand/v2"
	"slices"
	"testing"

	"capsule/api"
	"capsule/mapping"
)

// model is a map as the chapter words it: the page of each sector, or -1.
type model struct {
	blocks, pages int
	at            []int
}

// blank returns the model of a new map.
func blank(sectors, blocks, pages int) model {
	return model{blocks, pages, slices.Repeat([]int{-1}, sectors)}
}

// with returns a model with these pages of its sectors.
func (m model) with(pages ...int) model {
	return model{m.blocks, m.pages, pages}
}

func (m model) sector(page int) (int, bool) {
	if page < 0 {
		return 0, false
	}
	i := slices.Index(m.at, page)
	return max(i, 0), i >= 0
}

// after returns the model after the entries, or the error of the first wrong one.
func (m model) after(l ...api.MapEntry) (model, api.Errno) {
	n := m.with(slices.Clone(m.at)...)
	for _, x := range l {
		if x.Sector < 0 || x.Sector >= len(n.at) || x.Page < -1 || x.Page >= n.blocks*n.pages {
			return m, api.ErrRange
		}
		if s, used := n.sector(x.Page); used && s != x.Sector {
			return m, api.ErrBusy
		}
		n.at[x.Sector] = x.Page
	}
	return n, api.OK
}

// all returns the mapped sectors and their pages.
func (m model) all() [][2]int {
	var l [][2]int
	for sector, page := range m.at {
		if page >= 0 {
			l = append(l, [2]int{sector, page})
		}
	}
	return l
}

func (m model) entries() []api.MapEntry {
	var l []api.MapEntry
	for _, x := range m.all() {
		l = append(l, api.MapEntry{Sector: x[0], Page: x[1]})
	}
	return l
}

// block returns the pages in use of a block and their sectors.
func (m model) block(block int) [][2]int {
	var l [][2]int
	for page := range m.blocks * m.pages {
		if s, used := m.sector(page); used && page/m.pages == block {
			l = append(l, [2]int{page, s})
		}
	}
	return l
}

// build returns a map in the state of the model.
func (m model) build(t *testing.T) *mapping.Map {
	t.Helper()
	p := made(t, len(m.at), m.blocks, m.pages)
	applies(t, p, api.OK, m.entries()...)
	return p
}

// is fails the test unless the map shows what the model has, in every method that changes nothing.
func (m model) is(t *testing.T, p *mapping.Map) {
	t.Helper()
	for sector := -2; sector <= len(m.at)+1; sector++ {
		want := -1
		if sector >= 0 && sector < len(m.at) {
			want = m.at[sector]
		}
		isAt(t, p, sector, max(want, 0), want >= 0)
	}
	for page := -2; page <= m.blocks*m.pages+1; page++ {
		sector, used := m.sector(page)
		isSector(t, p, page, sector, used)
	}
	for block := -2; block <= m.blocks+1; block++ {
		want := m.block(block)
		if n, l := p.Valid(block), listed(p.Pages(block)); n != len(want) || !slices.Equal(l, want) {
			t.Errorf("%v: block %d: Valid %d, Pages %v, not %v", m, block, n, l, want)
		}
	}
	want := m.all()
	if n, s, l := p.Count(), p.Sectors(), listed(p.All()); n != len(want) || s != len(m.at) || !slices.Equal(l, want) {
		t.Errorf("%v: Count %d, Sectors %d, All %v, not %v", m, n, s, l, want)
	}
	if l := p.Entries(); !slices.Equal(l, m.entries()) {
		t.Errorf("%v: Entries %v", m, l)
	}
}

// follows applies entries to both, fails the test unless the error is the same, and returns the model afterwards.
func (m model) follows(t *testing.T, p *mapping.Map, l ...api.MapEntry) model {
	t.Helper()
	n, want := m.after(l...)
	if e := p.Apply(l...); e != want {
		t.Errorf("%v: Apply(%v): %v, not %v", m, l, e, want)
	}
	return n
}

// models yields all models of so many sectors in these blocks.
func models(sectors, blocks, pages int) func(yield func(model) bool) {
	return func(yield func(model) bool) {
		m, left := blank(sectors, blocks, pages), false
		var fill func(sector int)
		fill = func(sector int) {
			if sector == sectors {
				left = left || !yield(m.with(slices.Clone(m.at)...))
				return
			}
			for page := -1; page < blocks*pages; page++ {
				if _, used := m.sector(page); !used && !left {
					m.at[sector] = page
					fill(sector + 1)
				}
			}
			m.at[sector] = -1
		}
		fill(0)
	}
}

// choices returns all entries with these sectors and pages.
func choices(sectors, pages []int) []api.MapEntry {
	var l []api.MapEntry
	for _, s := range sectors {
		for _, p := range pages {
			l = append(l, api.MapEntry{Sector: s, Page: p})
		}
	}
	return l
}

// P7.1 to P7.4: all maps of three sectors and four pages, with all calls of Apply with one entry and with two, also with sectors and pages that do not exist.
func TestEveryCall(t *testing.T) {
	wide := choices([]int{math.MinInt, -1, 0, 1, 2, 3, 1 << 32, math.MaxInt}, []int{math.MinInt, -2, -1, 0, 1, 2, 3, 4, 1 << 32, math.MaxInt})
	narrow := choices([]int{-1, 0, 1, 2, 3}, []int{-2, -1, 0, 1, 3, 4})
	for m := range models(3, 2, 2) {
		calls := [][]api.MapEntry{nil}
		for _, a := range wide {
			calls = append(calls, []api.MapEntry{a})
		}
		for _, a := range narrow {
			for _, b := range narrow {
				calls = append(calls, []api.MapEntry{a, b})
			}
		}
		makes(t, m, calls...)
	}
}

// P7.1: all calls with three entries, on some maps of two sectors.
func TestEveryThreeEntries(t *testing.T) {
	l := choices([]int{0, 1, 2}, []int{-2, -1, 0, 1, 3})
	var calls [][]api.MapEntry
	for _, a := range l {
		for _, b := range l {
			for _, c := range l {
				calls = append(calls, []api.MapEntry{a, b, c})
			}
		}
	}
	for _, m := range []model{{2, 2, []int{-1, -1}}, {2, 2, []int{0, -1}}, {2, 2, []int{3, 0}}, {2, 2, []int{1, 3}}} {
		makes(t, m, calls...)
	}
}

// makes makes each of the calls on a map of its own in the state of the model.
func makes(t *testing.T, m model, calls ...[]api.MapEntry) {
	t.Helper()
	p := m.build(t)
	for _, l := range calls {
		q := p.Copy()
		m.follows(t, q, l...).is(t, q)
		if t.Failed() {
			t.Fatalf("Apply(%v) on %v", l, m)
		}
	}
	m.is(t, p)
}

// P7.1 to P7.4: all maps of four sectors and six pages.
func TestEveryMap(t *testing.T) {
	for _, s := range [][2]int{{2, 3}, {3, 2}} {
		for m := range models(4, s[0], s[1]) {
			p := m.build(t)
			m.is(t, p)
			follow(t, p, s[0], s[1])
		}
	}
}

// someEntries returns entries that are mostly valid.
func someEntries(r *rand.Rand, m model, most int) []api.MapEntry {
	var l []api.MapEntry
	for range r.IntN(most + 1) {
		x := api.MapEntry{Sector: r.IntN(len(m.at)), Page: r.IntN(m.blocks*m.pages+1) - 1}
		if r.IntN(3) == 0 {
			x.Page = -1
		}
		if r.IntN(20) == 0 {
			x.Sector = []int{-1, len(m.at), math.MinInt, math.MaxInt}[r.IntN(4)]
		}
		if r.IntN(20) == 0 {
			x.Page = []int{-2, m.blocks * m.pages, math.MinInt, math.MaxInt}[r.IntN(4)]
		}
		l = append(l, x)
	}
	return l
}

// sizes are sizes of maps: more sectors than pages, and fewer.
var sizes = [][3]int{{1, 2, 2}, {3, 2, 2}, {9, 2, 3}, {4, 3, 5}, {12, 4, 3}, {30, 7, 4}, {8, 2, 9}}

// P7.1 to P7.4: long sequences of calls, compared with the model; now and then the sequence goes on with a copy.
func TestModel(t *testing.T) {
	for run := range 140 {
		r := rand.New(rand.NewPCG(7, uint64(run)))
		s := sizes[run%len(sizes)]
		m, p := blank(s[0], s[1], s[2]), made(t, s[0], s[1], s[2])
		m.is(t, p)
		for range 100 {
			m = m.follows(t, p, someEntries(r, m, 1+run%5)...)
			m.is(t, p)
			if r.IntN(20) == 0 {
				follow(t, p, s[1], s[2])
				p = p.Copy()
			}
		}
	}
}

// P7.1: several maps that are used in turn have nothing to do with each other.
func TestSeveralMaps(t *testing.T) {
	r := rand.New(rand.NewPCG(8, 0))
	var state []model
	var maps []*mapping.Map
	for _, s := range sizes {
		state, maps = append(state, blank(s[0], s[1], s[2])), append(maps, made(t, s[0], s[1], s[2]))
	}
	for range 100 {
		for i := range state {
			state[i] = state[i].follows(t, maps[i], someEntries(r, state[i], 2)...)
		}
		for i, m := range state {
			m.is(t, maps[i])
		}
	}
}

// follow fails the test unless a map has the consequences of P7.4.
func follow(t *testing.T, p *mapping.Map, blocks, pages int) {
	t.Helper()
	for sector := range p.Sectors() {
		if page, mapped := p.At(sector); mapped {
			isSector(t, p, page, sector, true)
		}
	}
	for page := range blocks * pages {
		if sector, used := p.Sector(page); used {
			isAt(t, p, sector, page, true)
		}
	}
	sum := 0
	for block := range blocks {
		sum += p.Valid(block)
	}
	if n := p.Count(); sum != n {
		t.Errorf("Count %d, and the sum of Valid is %d", n, sum)
	}
	q := made(t, p.Sectors(), blocks, pages)
	applies(t, q, api.OK, p.Entries()...)
	same(t, q, p, blocks, pages)
}

// same fails the test unless two maps of the same size show the same.
func same(t *testing.T, p, q *mapping.Map, blocks, pages int) {
	t.Helper()
	if !slices.Equal(p.Entries(), q.Entries()) || !slices.Equal(listed(p.All()), listed(q.All())) || p.Count() != q.Count() || p.Sectors() != q.Sectors() {
		t.Errorf("%v and %v", p.Entries(), q.Entries())
	}
	for block := range blocks {
		if p.Valid(block) != q.Valid(block) || !slices.Equal(listed(p.Pages(block)), listed(q.Pages(block))) {
			t.Errorf("block %d: %v and %v", block, listed(p.Pages(block)), listed(q.Pages(block)))
		}
	}
	for sector := range p.Sectors() {
		a, b := q.At(sector)
		isAt(t, p, sector, a, b)
	}
	for page := range blocks * pages {
		a, b := q.Sector(page)
		isSector(t, p, page, a, b)
	}
}

// P7.1 to P7.4: every page of as many blocks as there can be, and of blocks as large as they can be, given to a sector of its own, moved and removed.
func TestFullMaps(t *testing.T) {
	for _, s := range [][2]int{{4096, 2}, {2, 512}, {64, 32}} {
		total := s[0] * s[1]
		p := made(t, total, s[0], s[1])
		var l []api.MapEntry
		for sector := range total {
			l = append(l, api.MapEntry{Sector: sector, Page: (sector*7 + 5) % total})
		}
		applies(t, p, api.OK, l...)
		if n := p.Count(); n != total || !slices.Equal(p.Entries(), l) {
			t.Errorf("Count %d", n)
		}
		for block := range s[0] {
			if n := p.Valid(block); n != s[1] {
				t.Errorf("Valid(%d): %d", block, n)
			}
		}
		follow(t, p, s[0], s[1])
		applies(t, p, api.ErrBusy, slices.Concat(removed(l), l[:1], []api.MapEntry{{Sector: 1, Page: l[0].Page}})...)
		if !slices.Equal(p.Entries(), l) {
			t.Errorf("a call with an error has changed the map of %d pages", total)
		}
		follow(t, p, s[0], s[1])
		applies(t, p, api.OK, removed(l)...)
		blank(total, s[0], s[1]).empty(t, p)
	}
}

// removed returns entries that remove the sectors of others.
func removed(l []api.MapEntry) []api.MapEntry {
	var out []api.MapEntry
	for _, x := range l {
		out = append(out, api.MapEntry{Sector: x.Sector, Page: -1})
	}
	return out
}

// empty fails the test unless a map of the size of the model has no assignment.
func (m model) empty(t *testing.T, p *mapping.Map) {
	t.Helper()
	if n, s := p.Count(), p.Sectors(); n != 0 || s != len(m.at) {
		t.Errorf("Count %d, Sectors %d, not 0, %d", n, s, len(m.at))
	}
	if a, b := listed(p.All()), p.Entries(); len(a) != 0 || len(b) != 0 {
		t.Errorf("All %v, Entries %v", a, b)
	}
	for _, block := range []int{0, m.blocks / 2, m.blocks - 1} {
		if n, l := p.Valid(block), listed(p.Pages(block)); n != 0 || len(l) != 0 {
			t.Errorf("block %d: Valid %d, Pages %v", block, n, l)
		}
	}
	for _, sector := range []int{0, len(m.at) / 2, len(m.at) - 1} {
		isAt(t, p, sector, 0, false)
	}
	for _, page := range []int{0, m.pages, m.blocks*m.pages - 1} {
		isSector(t, p, page, 0, false)
	}
}

// P7.1: a call with an error at each place of a long list of entries, each of which matters, changes nothing.
func TestErrorAtEachPlace(t *testing.T) {
	m := blank(4, 2, 3).with(0, 3, -1, 5)
	l := []api.MapEntry{{Sector: 0, Page: 1}, {Sector: 2, Page: 0}, {Sector: 1, Page: -1}, {Sector: 0, Page: 3}, {Sector: 2, Page: -1}, {Sector: 1, Page: 0}, {Sector: 3, Page: 5}, {Sector: 3, Page: 4}, {Sector: 2, Page: 5}, {Sector: 0, Page: -1}, {Sector: 0, Page: -1}, {Sector: 1, Page: 1}}
	for i := range len(l) + 1 {
		for _, wrong := range []struct {
			x api.MapEntry
			e api.Errno
		}{{api.MapEntry{Sector: 4, Page: 2}, api.ErrRange}, {api.MapEntry{Sector: -1, Page: 2}, api.ErrRange}, {api.MapEntry{Sector: 1, Page: 6}, api.ErrRange}, {api.MapEntry{Sector: 1, Page: -2}, api.ErrRange}} {
			p := m.build(t)
			applies(t, p, wrong.e, slices.Insert(slices.Clone(l), i, wrong.x)...)
			m.is(t, p)
			if t.Failed() {
				t.Fatalf("%v at %d", wrong.x, i)
			}
		}
		p := m.build(t)
		n, _ := m.after(l[:i]...)
		held := n.entries()[0]
		applies(t, p, api.ErrBusy, append(slices.Clone(l[:i]), api.MapEntry{Sector: (held.Sector + 1) % 4, Page: held.Page})...)
		m.is(t, p)
		applies(t, p, api.OK, l[:i]...)
		n.is(t, p)
		if t.Failed() {
			t.Fatalf("busy at %d", i)
		}
	}
}
