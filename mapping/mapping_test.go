package mapping_test

import (
	"iter"
	"math"
	"slices"
	"testing"

	"capsule/api"
	"capsule/mapping"
)

func made(t *testing.T, sectors, blocks, pages int) *mapping.Map {
	t.Helper()
	p, e := mapping.New(sectors, blocks, pages)
	if e != api.OK || p == nil {
		t.Fatalf("New(%d, %d, %d): %v, %v", sectors, blocks, pages, p, e)
	}
	return p
}

// cannotMake fails the test unless New refuses these numbers.
func cannotMake(t *testing.T, sectors, blocks, pages int) {
	t.Helper()
	if p, e := mapping.New(sectors, blocks, pages); p != nil || e != api.ErrArg {
		t.Errorf("New(%d, %d, %d): %v, %v", sectors, blocks, pages, p, e)
	}
}

// applies fails the test unless Apply returns this error.
func applies(t *testing.T, p *mapping.Map, want api.Errno, l ...api.MapEntry) {
	t.Helper()
	if e := p.Apply(l...); e != want {
		t.Errorf("Apply of %d entries: %v, not %v", len(l), e, want)
	}
}

// isAt fails the test unless this is the page of a sector.
func isAt(t *testing.T, p *mapping.Map, sector, want int, mapped bool) {
	t.Helper()
	if page, is := p.At(sector); page != want || is != mapped {
		t.Errorf("At(%d): %d, %t, not %d, %t", sector, page, is, want, mapped)
	}
}

// isSector fails the test unless this is the sector that a page contains.
func isSector(t *testing.T, p *mapping.Map, page, want int, used bool) {
	t.Helper()
	if sector, is := p.Sector(page); sector != want || is != used {
		t.Errorf("Sector(%d): %d, %t, not %d, %t", page, sector, is, want, used)
	}
}

// listed returns what an iterator yields.
func listed(s iter.Seq2[int, int]) [][2]int {
	var l [][2]int
	for a, b := range s {
		l = append(l, [2]int{a, b})
	}
	return l
}

// noNumbers are numbers that no sector, no page and no block of a small map has; -1 is no sector, no page to ask for, and no block.
var noNumbers = []int{math.MinInt, math.MinInt + 1, -1 << 32, math.MinInt32, -4096, -3, -2, -1, 256, 4096, 1 << 24, math.MaxInt32, 1 << 32, 1<<32 + 1, math.MaxInt - 1, math.MaxInt}

// The chapter's examples.
func TestExamples(t *testing.T) {
	m := made(t, 4, 2, 3)
	applies(t, m, api.OK, api.MapEntry{Sector: 2, Page: 4}, api.MapEntry{Sector: 0, Page: 1})
	isAt(t, m, 2, 4, true)
	isAt(t, m, 1, 0, false)
	isSector(t, m, 4, 2, true)
	if v, n := m.Valid(1), m.Count(); v != 1 || n != 2 {
		t.Errorf("Valid(1) %d, Count %d", v, n)
	}
	applies(t, m, api.ErrBusy, api.MapEntry{Sector: 1, Page: 4})
	applies(t, m, api.ErrRange, api.MapEntry{Sector: 2, Page: 5}, api.MapEntry{Sector: 4, Page: 0})
	applies(t, m, api.ErrRange, api.MapEntry{Sector: 2, Page: 6})
	isAt(t, m, 2, 4, true)
	applies(t, m, api.OK, api.MapEntry{Sector: 2, Page: -1}, api.MapEntry{Sector: 1, Page: 4})
	if l := m.Entries(); !slices.Equal(l, []api.MapEntry{{Sector: 0, Page: 1}, {Sector: 1, Page: 4}}) {
		t.Errorf("Entries %v", l)
	}
	if l := listed(m.Pages(1)); !slices.Equal(l, [][2]int{{4, 1}}) {
		t.Errorf("Pages(1) %v", l)
	}
}

// P7.1: each of the three numbers at its limits and between them.
func TestNew(t *testing.T) {
	for _, s := range [][3]int{
		{1, 2, 2}, {2, 2, 2}, {7, 2, 2}, {1, 3, 2}, {1, 4096, 2}, {1, 4095, 2}, {1, 2, 3}, {1, 2, 511}, {1, 2, 512},
		{1, 4096, 512}, {5, 100, 100}, {1 << 24, 2, 2}, {1<<24 - 1, 2, 2}, {1 << 24, 4096, 512}, {mapping.MaxSectors, 3, 5},
	} {
		blank(s[0], s[1], s[2]).empty(t, made(t, s[0], s[1], s[2]))
	}
	if n := mapping.MaxSectors; n != 16777216 {
		t.Errorf("MaxSectors %d", n)
	}
	blank(3, 2, 4).is(t, made(t, 3, 2, 4))
}

// P7.1, P1: each of the three numbers beyond its limits, alone and with others.
func TestInvalidSizes(t *testing.T) {
	good := [3]int{5, 4, 3}
	bad := [3][]int{
		{0, -1, -5, math.MinInt, math.MinInt32, 1<<24 + 1, 1 << 25, 1 << 32, 1<<32 + 1, math.MaxInt},
		{1, 0, -1, -2, -4096, math.MinInt, 4097, 8192, 1<<32 + 2, math.MaxInt},
		{1, 0, -1, -2, -512, math.MinInt, 513, 1024, 4096, 1<<32 + 2, math.MaxInt},
	}
	for i, l := range bad {
		for _, n := range l {
			s := good
			s[i] = n
			cannotMake(t, s[0], s[1], s[2])
			for j, m := range bad {
				for _, n := range m {
					r := s
					r[j] = n
					cannotMake(t, r[0], r[1], r[2])
				}
			}
		}
	}
	cannotMake(t, 0, 0, 0)
	cannotMake(t, -1, -2, -2)
	cannotMake(t, math.MaxInt, math.MaxInt, math.MaxInt)
	cannotMake(t, math.MinInt, math.MinInt, math.MinInt)
}

// P7.1: calls with no entry change nothing, whatever the map contains.
func TestApplyNothing(t *testing.T) {
	for _, m := range []model{blank(3, 2, 2), {2, 2, []int{2, -1, 0}}} {
		p := m.build(t)
		applies(t, p, api.OK)
		applies(t, p, api.OK, []api.MapEntry{}...)
		applies(t, p, api.OK, make([]api.MapEntry, 0, 4)...)
		m.is(t, p)
	}
}

// P7.1: entries that assign, move and remove, alone and together, with the map that they lead to.
func TestApply(t *testing.T) {
	before := model{2, 3, []int{1, -1, 4, -1}}
	for _, c := range []struct {
		name string
		l    []api.MapEntry
		want []int
	}{
		{"assigns", []api.MapEntry{{Sector: 1, Page: 0}}, []int{1, 0, 4, -1}},
		{"assigns the last sector and page", []api.MapEntry{{Sector: 3, Page: 5}}, []int{1, -1, 4, 5}},
		{"assigns several", []api.MapEntry{{Sector: 3, Page: 2}, {Sector: 1, Page: 3}}, []int{1, 3, 4, 2}},
		{"moves within a block", []api.MapEntry{{Sector: 0, Page: 2}}, []int{2, -1, 4, -1}},
		{"moves to another block", []api.MapEntry{{Sector: 0, Page: 3}}, []int{3, -1, 4, -1}},
		{"moves to page 0", []api.MapEntry{{Sector: 2, Page: 0}}, []int{1, -1, 0, -1}},
		{"moves several times", []api.MapEntry{{Sector: 0, Page: 2}, {Sector: 0, Page: 5}, {Sector: 0, Page: 0}}, []int{0, -1, 4, -1}},
		{"moves there and back", []api.MapEntry{{Sector: 0, Page: 5}, {Sector: 0, Page: 1}}, []int{1, -1, 4, -1}},
		{"removes", []api.MapEntry{{Sector: 2, Page: -1}}, []int{1, -1, -1, -1}},
		{"removes all", []api.MapEntry{{Sector: 2, Page: -1}, {Sector: 0, Page: -1}}, []int{-1, -1, -1, -1}},
		{"removes what has no page", []api.MapEntry{{Sector: 1, Page: -1}, {Sector: 3, Page: -1}}, []int{1, -1, 4, -1}},
		{"removes twice", []api.MapEntry{{Sector: 0, Page: -1}, {Sector: 0, Page: -1}}, []int{-1, -1, 4, -1}},
		{"assigns the same page", []api.MapEntry{{Sector: 2, Page: 4}}, []int{1, -1, 4, -1}},
		{"assigns the same page twice", []api.MapEntry{{Sector: 1, Page: 5}, {Sector: 1, Page: 5}}, []int{1, 5, 4, -1}},
		{"frees a page by removing and uses it again", []api.MapEntry{{Sector: 2, Page: -1}, {Sector: 1, Page: 4}}, []int{1, 4, -1, -1}},
		{"frees a page by moving and uses it again", []api.MapEntry{{Sector: 2, Page: 5}, {Sector: 1, Page: 4}}, []int{1, 4, 5, -1}},
		{"frees a page and gives it back", []api.MapEntry{{Sector: 2, Page: -1}, {Sector: 2, Page: 4}}, []int{1, -1, 4, -1}},
		{"exchanges two pages", []api.MapEntry{{Sector: 0, Page: 0}, {Sector: 2, Page: 1}, {Sector: 0, Page: 4}}, []int{4, -1, 1, -1}},
		{"uses a page in turn", []api.MapEntry{{Sector: 1, Page: 0}, {Sector: 1, Page: -1}, {Sector: 3, Page: 0}, {Sector: 3, Page: 2}, {Sector: 0, Page: 0}}, []int{0, -1, 4, 2}},
		{"assigns and removes", []api.MapEntry{{Sector: 3, Page: 0}, {Sector: 3, Page: -1}}, []int{1, -1, 4, -1}},
	} {
		p := before.build(t)
		applies(t, p, api.OK, c.l...)
		before.with(c.want...).is(t, p)
		follow(t, p, 2, 3)
		if t.Failed() {
			t.Fatal(c.name)
		}
	}
}

// P7.1, P1: entries that cannot be applied, alone, first and behind others; the first wrong one gives the error, and nothing is changed.
func TestInvalidEntries(t *testing.T) {
	m := model{2, 3, []int{1, -1, 4, -1}}
	p := m.build(t)
	fine := api.MapEntry{Sector: 0, Page: 5}
	for _, n := range append(slices.Clone(noNumbers), 4, 5, 6) {
		for _, page := range []int{-1, 0, 1, 4, 5, 6, -2, math.MinInt, math.MaxInt} {
			applies(t, p, api.ErrRange, api.MapEntry{Sector: n, Page: page})
			applies(t, p, api.ErrRange, fine, api.MapEntry{Sector: n, Page: page})
			applies(t, p, api.ErrRange, api.MapEntry{Sector: n, Page: page}, fine)
		}
	}
	for _, n := range append(slices.Clone(noNumbers), 6, 7) {
		for _, sector := range []int{0, 1, 2, 3} {
			if n != -1 {
				applies(t, p, api.ErrRange, api.MapEntry{Sector: sector, Page: n})
				applies(t, p, api.ErrRange, fine, api.MapEntry{Sector: sector, Page: n})
				applies(t, p, api.ErrRange, api.MapEntry{Sector: sector, Page: n}, fine)
			}
		}
	}
	for _, x := range []api.MapEntry{{Sector: 0, Page: 4}, {Sector: 1, Page: 1}, {Sector: 1, Page: 4}, {Sector: 2, Page: 1}, {Sector: 3, Page: 4}} {
		applies(t, p, api.ErrBusy, x)
		applies(t, p, api.ErrBusy, api.MapEntry{Sector: 1, Page: 5}, x)
		applies(t, p, api.ErrBusy, x, api.MapEntry{Sector: 1, Page: 5})
	}
	m.is(t, p)
}

// P7.1: pages that become busy in the same call, or become free only later in it.
func TestBusyWithinACall(t *testing.T) {
	m := model{2, 3, []int{1, -1, 4, -1}}
	for _, l := range [][]api.MapEntry{
		{{Sector: 1, Page: 0}, {Sector: 3, Page: 0}},
		{{Sector: 0, Page: 0}, {Sector: 2, Page: 0}},
		{{Sector: 1, Page: 4}, {Sector: 2, Page: -1}},
		{{Sector: 1, Page: 4}, {Sector: 2, Page: 5}},
		{{Sector: 0, Page: 4}, {Sector: 2, Page: 1}},
		{{Sector: 2, Page: -1}, {Sector: 1, Page: 4}, {Sector: 2, Page: 4}},
		{{Sector: 0, Page: 5}, {Sector: 0, Page: 1}, {Sector: 3, Page: 1}},
	} {
		p := m.build(t)
		applies(t, p, api.ErrBusy, l...)
		m.is(t, p)
		if t.Failed() {
			t.Fatalf("%v", l)
		}
	}
}

// P7.1: of two wrong entries the first one gives the error, and in one entry ErrRange comes before ErrBusy.
func TestOrderOfErrors(t *testing.T) {
	m := model{2, 3, []int{1, -1, 4, -1}}
	p := m.build(t)
	busy := api.MapEntry{Sector: 1, Page: 4}
	for _, missing := range []api.MapEntry{{Sector: 4, Page: 0}, {Sector: -1, Page: -1}, {Sector: 0, Page: 6}, {Sector: 0, Page: -2}, {Sector: 9, Page: 9}} {
		fine := api.MapEntry{Sector: 3, Page: 2}
		applies(t, p, api.ErrBusy, busy, missing)
		applies(t, p, api.ErrRange, missing, busy)
		applies(t, p, api.ErrBusy, fine, busy, missing)
		applies(t, p, api.ErrRange, fine, missing, busy)
		applies(t, p, api.ErrBusy, busy, fine, missing)
		applies(t, p, api.ErrRange, missing, fine, busy)
	}
	for _, both := range []api.MapEntry{{Sector: 4, Page: 4}, {Sector: -1, Page: 1}, {Sector: math.MaxInt, Page: 4}, {Sector: math.MinInt, Page: 1}} {
		applies(t, p, api.ErrRange, both)
	}
	m.is(t, p)
}

// P7.1: a map is as it was after a call with an error in every other respect, too: what was tried can be done then.
func TestApplyAfterErrors(t *testing.T) {
	p := model{2, 3, []int{1, -1, 4, -1}}.build(t)
	applies(t, p, api.ErrRange, api.MapEntry{Sector: 1, Page: 0}, api.MapEntry{Sector: 2, Page: -1}, api.MapEntry{Sector: 4, Page: 5})
	applies(t, p, api.ErrBusy, api.MapEntry{Sector: 3, Page: 4})
	applies(t, p, api.OK, api.MapEntry{Sector: 3, Page: 0}, api.MapEntry{Sector: 1, Page: 5})
	model{2, 3, []int{1, 5, 4, 0}}.is(t, p)
	applies(t, p, api.ErrBusy, api.MapEntry{Sector: 0, Page: -1}, api.MapEntry{Sector: 1, Page: 1}, api.MapEntry{Sector: 2, Page: 5}, api.MapEntry{Sector: 3, Page: 5})
	applies(t, p, api.OK, api.MapEntry{Sector: 0, Page: -1}, api.MapEntry{Sector: 1, Page: 1}, api.MapEntry{Sector: 2, Page: 5})
	model{2, 3, []int{-1, 1, 5, 0}}.is(t, p)
}

// P7.1: entries are neither changed by a call, nor kept by the map, be there an error or none; nor is what lies behind them.
func TestArguments(t *testing.T) {
	p := made(t, 4, 2, 3)
	l := []api.MapEntry{{Sector: 3, Page: 5}, {Sector: 0, Page: 2}, {Sector: 3, Page: 0}, {Sector: 9, Page: 9}, {Sector: 1, Page: 1}}
	want := slices.Clone(l)
	applies(t, p, api.ErrRange, l...)
	applies(t, p, api.OK, l[:3]...)
	applies(t, p, api.ErrBusy, slices.Concat(l[:3], []api.MapEntry{{Sector: 1, Page: 2}})...)
	if !slices.Equal(l, want) {
		t.Errorf("%v, not %v", l, want)
	}
	for i := range l {
		l[i] = api.MapEntry{Sector: 2, Page: 4}
	}
	model{2, 3, []int{2, -1, -1, 0}}.is(t, p)
}

// P7.1 to P7.3: the last sectors and pages of the largest map.
func TestLargestMap(t *testing.T) {
	const sectors, pages = mapping.MaxSectors, 4096 * 512
	p := made(t, sectors, 4096, 512)
	l := []api.MapEntry{{Sector: 0, Page: pages - 1}, {Sector: 1 << 16, Page: 512}, {Sector: sectors - 2, Page: 511}, {Sector: sectors - 1, Page: 0}}
	applies(t, p, api.OK, l[2], l[0], l[3], l[1])
	applies(t, p, api.ErrRange, api.MapEntry{Sector: sectors, Page: 1})
	applies(t, p, api.ErrRange, api.MapEntry{Sector: 1, Page: pages})
	applies(t, p, api.ErrBusy, api.MapEntry{Sector: 1, Page: pages - 1})
	if n, s, m := p.Count(), p.Sectors(), p.Entries(); n != 4 || s != sectors || !slices.Equal(m, l) {
		t.Errorf("Count %d, Sectors %d, Entries %v", n, s, m)
	}
	for _, x := range l {
		isAt(t, p, x.Sector, x.Page, true)
		isSector(t, p, x.Page, x.Sector, true)
	}
	isAt(t, p, sectors, 0, false)
	isSector(t, p, pages, 0, false)
	for block, want := range map[int][][2]int{0: {{0, sectors - 1}, {511, sectors - 2}}, 1: {{512, 1 << 16}}, 2: nil, 4094: nil, 4095: {{pages - 1, 0}}, 4096: nil} {
		if n, l := p.Valid(block), listed(p.Pages(block)); n != len(want) || !slices.Equal(l, want) {
			t.Errorf("block %d: Valid %d, Pages %v", block, n, l)
		}
	}
}
