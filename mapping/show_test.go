package mapping_test

import (
	"iter"
	"slices"
	"testing"

	"capsule/api"
	"capsule/mapping"
)

// some is a map with sectors in all blocks but the last one, in another order than their pages.
func some() model {
	return model{3, 4, []int{7, -1, 4, 1, -1, 0, 5}}
}

// P7.2: At, Sector, Valid, Count and Sectors for what exists.
func TestShown(t *testing.T) {
	p := some().build(t)
	for sector, page := range []int{7, -1, 4, 1, -1, 0, 5} {
		isAt(t, p, sector, max(page, 0), page >= 0)
	}
	for page, sector := range []int{5, 3, -1, -1, 2, 6, -1, 0, -1, -1, -1, -1} {
		isSector(t, p, page, max(sector, 0), sector >= 0)
	}
	for block, want := range []int{2, 3, 0} {
		if n := p.Valid(block); n != want {
			t.Errorf("Valid(%d): %d, not %d", block, n, want)
		}
	}
	if n, s := p.Count(), p.Sectors(); n != 5 || s != 7 {
		t.Errorf("Count %d, Sectors %d", n, s)
	}
	some().is(t, p)
}

// P7.2, P7.3, P1: sectors, pages and blocks that do not exist, of a map with sectors and of one without; asking changes nothing.
func TestNumbersThatDoNotExist(t *testing.T) {
	for _, m := range []model{some(), blank(7, 3, 4), {3, 4, []int{0}}} {
		p := m.build(t)
		for _, n := range append(slices.Clone(noNumbers), 12, 13) {
			isAt(t, p, n, 0, false)
			isSector(t, p, n, 0, false)
			if v, l := p.Valid(n), listed(p.Pages(n)); v != 0 || l != nil {
				t.Errorf("block %d: Valid %d, Pages %v", n, v, l)
			}
		}
		isAt(t, p, len(m.at), 0, false)
		if v, l := p.Valid(3), listed(p.Pages(3)); v != 0 || l != nil {
			t.Errorf("block 3: Valid %d, Pages %v", v, l)
		}
		m.is(t, p)
	}
}

// P7.3: sectors and pages in increasing order, whatever order they were assigned in.
func TestIncreasingOrder(t *testing.T) {
	l := some().entries()
	for i := range l {
		p := made(t, 7, 3, 4)
		for _, x := range slices.Concat(l[i:], l[:i]) {
			applies(t, p, api.OK, x)
		}
		some().is(t, p)
		slices.Reverse(l)
		q := made(t, 7, 3, 4)
		applies(t, q, api.OK, l...)
		some().is(t, q)
	}
	p := some().build(t)
	if l := listed(p.All()); !slices.Equal(l, [][2]int{{0, 7}, {2, 4}, {3, 1}, {5, 0}, {6, 5}}) {
		t.Errorf("All %v", l)
	}
	for block, want := range [][][2]int{{{0, 5}, {1, 3}}, {{4, 2}, {5, 6}, {7, 0}}, nil} {
		if l := listed(p.Pages(block)); !slices.Equal(l, want) {
			t.Errorf("Pages(%d) %v, not %v", block, l, want)
		}
	}
	if l := p.Entries(); !slices.Equal(l, []api.MapEntry{{Sector: 0, Page: 7}, {Sector: 2, Page: 4}, {Sector: 3, Page: 1}, {Sector: 5, Page: 0}, {Sector: 6, Page: 5}}) {
		t.Errorf("Entries %v", l)
	}
}

// iterators calls a function for each kind of iterator over the map some, with what it yields.
func iterators(t *testing.T, check func(p *mapping.Map, s iter.Seq2[int, int], want [][2]int)) {
	t.Helper()
	p := some().build(t)
	check(p, p.All(), some().all())
	for block := range 3 {
		p := some().build(t)
		check(p, p.Pages(block), some().block(block))
	}
}

// P7.3: iterators that are left after each number of items, and used again: they begin at the beginning.
func TestLeftEarly(t *testing.T) {
	iterators(t, func(p *mapping.Map, s iter.Seq2[int, int], want [][2]int) {
		for n := 1; n <= len(want); n++ {
			var l [][2]int
			for a, b := range s {
				l = append(l, [2]int{a, b})
				if len(l) == n {
					break
				}
			}
			if !slices.Equal(l, want[:n]) {
				t.Errorf("left after %d: %v, not %v", n, l, want)
			}
		}
		for range 2 {
			if l := listed(s); !slices.Equal(l, want) {
				t.Errorf("used again: %v, not %v", l, want)
			}
		}
		calls := 0
		s(func(int, int) bool {
			calls++
			return false
		})
		if calls != min(1, len(want)) {
			t.Errorf("left at once: %d calls", calls)
		}
		some().is(t, p)
	})
}

// P7.3: iterators that are used within themselves.
func TestWithinThemselves(t *testing.T) {
	iterators(t, func(_ *mapping.Map, s iter.Seq2[int, int], want [][2]int) {
		var l, k [][4]int
		for a, b := range s {
			for c, d := range s {
				l = append(l, [4]int{a, b, c, d})
				if c == a {
					break
				}
			}
		}
		for i, x := range want {
			for _, y := range want[:i+1] {
				k = append(k, [4]int{x[0], x[1], y[0], y[1]})
			}
		}
		if !slices.Equal(l, k) {
			t.Errorf("%v, not %v", l, k)
		}
	})
}

// P7.3: iterators yield the map as it was at the time of the call, whatever happens to it before they are used, while they are used, and between their uses.
func TestAfterChanges(t *testing.T) {
	change := func(p *mapping.Map) {
		applies(t, p, api.OK, removed(p.Entries())...)
		applies(t, p, api.OK, api.MapEntry{Sector: 1, Page: 0}, api.MapEntry{Sector: 0, Page: 6}, api.MapEntry{Sector: 3, Page: 8})
	}
	changed := model{3, 4, []int{6, 0, -1, 8, -1, -1, -1}}
	iterators(t, func(p *mapping.Map, s iter.Seq2[int, int], want [][2]int) {
		for range 2 {
			var l [][2]int
			for a, b := range s {
				l = append(l, [2]int{a, b})
				change(p)
			}
			if !slices.Equal(l, want) {
				t.Errorf("changed in the loop: %v, not %v", l, want)
			}
		}
		change(p)
		changed.is(t, p)
		if l := listed(s); !slices.Equal(l, want) {
			t.Errorf("changed before: %v, not %v", l, want)
		}
	})
	iterators(t, func(p *mapping.Map, unused iter.Seq2[int, int], want [][2]int) {
		change(p)
		if l := listed(unused); !slices.Equal(l, want) {
			t.Errorf("used late: %v, not %v", l, want)
		}
	})
}

// P7.3: iterators over nothing stay so, even if the map gets sectors.
func TestIteratorsOfNothing(t *testing.T) {
	p := made(t, 7, 3, 4)
	l := []iter.Seq2[int, int]{p.All(), p.Pages(0), p.Pages(1), p.Pages(2), p.Pages(3), p.Pages(-1)}
	applies(t, p, api.OK, some().entries()...)
	for _, s := range l {
		for a, b := range s {
			t.Errorf("%d, %d", a, b)
		}
	}
	some().is(t, p)
}

// P7.3: entries that the caller changes, or appends to, are not those of the map, nor those of another call.
func TestResults(t *testing.T) {
	p := some().build(t)
	a, b := p.Entries(), p.Entries()
	for i := range a {
		a[i] = api.MapEntry{Sector: 1, Page: 11}
	}
	_ = append(a[:2], a[3:]...)
	if !slices.Equal(b, some().entries()) {
		t.Errorf("Entries %v", b)
	}
	some().is(t, p)
	c := append(b, api.MapEntry{Sector: 4, Page: 11})
	if d := p.Entries(); !slices.Equal(d, some().entries()) || len(c) != len(d)+1 {
		t.Errorf("Entries %v", d)
	}
	applies(t, p, api.OK, c...)
	n, _ := some().after(c...)
	n.is(t, p)
}

// P7.3: entries are those of the time of the call.
func TestEntriesAfterChanges(t *testing.T) {
	p := some().build(t)
	l := p.Entries()
	applies(t, p, api.OK, removed(l)...)
	if !slices.Equal(l, some().entries()) || len(p.Entries()) != 0 {
		t.Errorf("%v, %v", l, p.Entries())
	}
	q := made(t, 7, 3, 4)
	applies(t, q, api.OK, l...)
	some().is(t, q)
}

// P7.3: a copy has the same assignments; changes of the one do not show in the other, whichever is changed first.
func TestCopy(t *testing.T) {
	l := []api.MapEntry{{Sector: 0, Page: -1}, {Sector: 1, Page: 7}, {Sector: 5, Page: 11}, {Sector: 4, Page: 2}}
	changed := model{3, 4, []int{-1, 7, 4, 1, 2, 11, 5}}
	for range 2 {
		p := some().build(t)
		q := p.Copy()
		if q == nil || q == p {
			t.Fatalf("Copy: %v", q)
		}
		r := q.Copy()
		some().is(t, q)
		applies(t, p, api.OK, l...)
		changed.is(t, p)
		some().is(t, q)
		some().is(t, r)
		applies(t, r, api.OK, l[3])
		applies(t, q, api.ErrBusy, l[3], api.MapEntry{Sector: 1, Page: 2})
		some().is(t, q)
		changed.is(t, p)
		applies(t, q, api.OK, l...)
		changed.is(t, q)
		applies(t, q, api.OK, removed(q.Entries())...)
		blank(7, 3, 4).is(t, q)
		changed.is(t, p)
		n, _ := some().after(l[3])
		n.is(t, r)
	}
}

// P7.3: copies of maps without sectors, and of one that had an error; they take what their original takes.
func TestCopyOfFew(t *testing.T) {
	p := made(t, 3, 2, 2)
	q := p.Copy()
	applies(t, q, api.OK, api.MapEntry{Sector: 2, Page: 3})
	blank(3, 2, 2).is(t, p)
	model{2, 2, []int{-1, -1, 3}}.is(t, q)
	applies(t, q, api.ErrRange, api.MapEntry{Sector: 2, Page: 0}, api.MapEntry{Sector: 3, Page: 0})
	r := q.Copy()
	applies(t, r, api.ErrRange, api.MapEntry{Sector: 0, Page: 4})
	applies(t, r, api.ErrRange, api.MapEntry{Sector: 3, Page: 0})
	applies(t, r, api.ErrBusy, api.MapEntry{Sector: 1, Page: 3})
	model{2, 2, []int{-1, -1, 3}}.is(t, r)
}

// P7.3: an iterator of a copy, or of its original, does not show changes of the other one.
func TestIteratorsOfCopies(t *testing.T) {
	p := some().build(t)
	all, pages := p.All(), p.Pages(1)
	q := p.Copy()
	applies(t, q, api.OK, removed(q.Entries())...)
	if a, b := listed(all), listed(pages); !slices.Equal(a, some().all()) || !slices.Equal(b, some().block(1)) {
		t.Errorf("All %v, Pages(1) %v", a, b)
	}
	if a, b := listed(q.All()), listed(q.Pages(1)); a != nil || b != nil {
		t.Errorf("All %v, Pages(1) %v", a, b)
	}
}

// P7.1 to P7.3, P1: every method of nil and zero maps, where ErrNil comes before all other errors.
func TestNoMap(t *testing.T) {
	for _, p := range []*mapping.Map{nil, {}, new(mapping.Map)} {
		applies(t, p, api.ErrNil)
		for _, n := range append(slices.Clone(noNumbers), 0, 1) {
			applies(t, p, api.ErrNil, api.MapEntry{Sector: n, Page: -1})
			applies(t, p, api.ErrNil, api.MapEntry{Sector: 0, Page: n}, api.MapEntry{Sector: 1, Page: n})
			isAt(t, p, n, 0, false)
			isSector(t, p, n, 0, false)
			if v, l := p.Valid(n), listed(p.Pages(n)); v != 0 || l != nil {
				t.Errorf("block %d: Valid %d, Pages %v", n, v, l)
			}
		}
		if n, s, a, l := p.Count(), p.Sectors(), listed(p.All()), p.Entries(); n != 0 || s != 0 || a != nil || len(l) != 0 {
			t.Errorf("Count %d, Sectors %d, All %v, Entries %v", n, s, a, l)
		}
		if q := p.Copy(); q != nil {
			t.Errorf("Copy: %v", q)
		}
	}
}

// P7.4: the consequences for maps without sectors, with one, and with all pages in use.
func TestConsequences(t *testing.T) {
	follow(t, some().build(t), 3, 4)
	follow(t, blank(5, 2, 2).build(t), 2, 2)
	follow(t, model{2, 2, []int{3}}.build(t), 2, 2)
	follow(t, model{2, 2, []int{2, -1, 0, -1, 3, 1}}.build(t), 2, 2)
	follow(t, model{2, 2, []int{-1, -1, -1, 0}}.build(t), 2, 2)
}
